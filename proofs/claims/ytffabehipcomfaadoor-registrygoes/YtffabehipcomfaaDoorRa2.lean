/- Registry: New, copied, checkNew. -/
import Derived.Test.YtffabehipcomfaaDoorGr2
import Derived.Test.YtffabehipcomfaaDoorPs1
import Derived.Deep.RegionLaw
import Derived.Deep.RegionHeld3
import Derived.Maps.OwnSet
import Derived.BigQuiet
import Derived.BigRegion
namespace Go.Proofs.YtffabehipcomfaaDoor
open Go.RowKit Go.Maps

theorem hidr {p : Prop} (h : p) : Hid p := h
/-- The place of a name. -/
def idxN (N : List ByteArray) (s : ByteArray) : Nat := N.findIdx fun x => decide (x = s)
/-- The number of a name, as the map has it. -/
def numF (N : List ByteArray) (s : ByteArray) : Option Value := if idxN N s < N.length then some (.int .i64 (idxN N s : Nat)) else none
theorem idxN_lt {N : List ByteArray} {s : ByteArray} : idxN N s < N.length ↔ s ∈ N := by
  unfold idxN
  rw [List.findIdx_lt_length]
  constructor
  · rintro ⟨x, hx, e⟩
    have : x = s := by simpa using e
    exact this ▸ hx
  · intro h; exact ⟨s, h, by simp⟩
theorem idxN_at {N : List ByteArray} (hn : N.Nodup) {k : Nat} (hk : k < N.length) : idxN N N[k] = k := by
  unfold idxN
  refine (List.findIdx_eq hk).2 ⟨by simp, fun j hj => ?_⟩
  have pw := List.pairwise_iff_getElem.1 hn j k (by omega) hk hj
  simpa using pw
theorem idxN_spec {N : List ByteArray} {s : ByteArray} {k : Nat} (hk : k < N.length) (h1 : ∀ j (hj : j < k), N[j]'(by omega) ≠ s) (h2 : N[k] = s) : idxN N s = k := by
  unfold idxN
  exact (List.findIdx_eq hk).2 ⟨by simpa using h2, fun j hj => by simpa using h1 j hj⟩
theorem idxN_none {N : List ByteArray} {s : ByteArray} (h : ∀ j (hj : j < N.length), N[j] ≠ s) : idxN N s = N.length := by
  unfold idxN
  refine List.findIdx_eq_length.2 fun x hx => ?_
  obtain ⟨j, hj, rfl⟩ := List.mem_iff_getElem.1 hx
  simpa using h j hj
theorem idxN_le (N : List ByteArray) (s : ByteArray) : idxN N s ≤ N.length := List.findIdx_le_length
theorem idxN_app (N : List ByteArray) (t s : ByteArray) : idxN (N ++ [t]) s = if idxN N s < N.length then idxN N s else if t = s then N.length else N.length + 1 := by
  unfold idxN
  rw [List.findIdx_append]
  by_cases h : N.findIdx (fun x => decide (x = s)) < N.length
  · rw [if_pos h, if_pos h]
  · rw [if_neg h, if_neg h]
    by_cases e : t = s <;> simp [List.findIdx_cons, e] <;> omega
theorem numF_put {N : List ByteArray} {t : ByteArray} (h : t ∉ N) : putF (numF N) t (.int .i64 (N.length : Nat)) = numF (N ++ [t]) := by
  funext s
  unfold putF numF
  rw [idxN_app, List.length_append]
  simp only [List.length_cons, List.length_nil, Nat.zero_add]
  by_cases e : s = t
  · subst e
    have h2 : ¬ idxN N s < N.length := fun q => h (idxN_lt.1 q)
    rw [if_pos rfl, if_neg h2, if_pos rfl, if_pos (by omega)]
  · rw [if_neg e]
    by_cases h2 : idxN N s < N.length
    · rw [if_pos h2, if_pos h2, if_pos (by omega)]
    · rw [if_neg h2, if_neg h2, if_neg (Ne.symm e), if_neg (by omega)]
/-- A registry in memory: its providers, each with an expression of its own; their numbers by their names; whether it is frozen. -/
structure GX (w : World) (base r m : Nat) (vs : Value) (L : List Pvx) (fz : Bool) : Prop where
  hp : w.heap[r]? = some (.cells #[vs, .map (some m), .bool fz] 66)
  mv : MV w m L.length (numF (nameL (pL L)))
  own : OwnG KP w base vs L
  each : ∀ x ∈ L, OwnG KO w base x.v x.p.ops
  ok : ∀ x ∈ L, prvE x.p = 0
  tx : ∀ x ∈ L, ∀ c ∈ x.p.ops, c.text.size ≤ maxLen
  nm : ∀ x ∈ L, x.p.name.size ≤ maxLen
  nd : (nameL (pL L)).Nodup
  ln : L.length ≤ 256
  gr : base ≤ r
  gm : base ≤ m
/-- The blocks that a call may write to. -/
def FX (r m : Nat) (vs : Value) (x : Nat) : Prop := x = r ∨ x = m ∨ vs.ownBlock = some x
theorem lt_heap {w : World} {b : Nat} {ob : Obj} (h : w.heap[b]? = some ob) : b < w.heap.size := by
  by_cases q : b < w.heap.size
  · exact q
  · rw [Array.getElem?_eq_none (by omega)] at h; cases h
theorem GX.keep {w w' : World} {base r m : Nat} {vs : Value} {L : List Pvx} {fz : Bool} (h : GX w base r m vs L fz) (k : ∀ x, FX r m vs x → w'.heap[x]? = w.heap[x]?) (k2 : ∀ x ∈ L, ∀ g, x.v.ownBlock = some g → w'.heap[g]? = w.heap[g]?) : GX w' base r m vs L fz :=
  { h with
    hp := (k r (Or.inl rfl)).trans h.hp
    mv := h.mv.far (k m (Or.inr (Or.inl rfl)))
    own := h.own.far (fun g hg => k g (Or.inr (Or.inr hg)))
    each := fun x hx => (h.each x hx).far (fun g hg => k2 x hx g hg) }
theorem GX.below {w w' : World} {base r m : Nat} {vs : Value} {L : List Pvx} {fz : Bool} (h : GX w base r m vs L fz) (b : Below w.heap.size w w') : GX w' base r m vs L fz := by
  refine h.keep (fun x hx => b.block x ?_) (fun x hx g hg => b.block g ((h.each x hx).lt hg).2)
  rcases hx with rfl | rfl | hx
  · exact lt_heap h.hp
  · exact h.mv.lt
  · exact (h.own.lt hx).2
theorem chk_len {p : Prv} (h : prvE p = 0) : p.ops.length ≤ 256 := (chkO_ok (prvE_ops h).1).1
theorem GX.ps {w : World} {base r m : Nat} {vs : Value} {L : List Pvx} {fz : Bool} (h : GX w base r m vs L fz) : ∀ x ∈ L, PS w x.p x.v := fun x hx =>
  ⟨(h.each x hx).gs KO_ok.len, h.tx x hx, h.nm x hx, by have := chk_len (h.ok x hx); omega⟩
theorem GX.pr {w : World} {base r m : Nat} {vs : Value} {L : List Pvx} {fz : Bool} (h : GX w base r m vs L fz) : PR w vs L := ⟨h.own.gs KP_ok.len, h.ps⟩
theorem GX.cells {w : World} {base r m : Nat} {vs : Value} {L : List Pvx} {fz : Bool} (h : GX w base r m vs L fz) : w.cell? ⟨r, 0, none⟩ = some vs ∧ w.cell? ⟨r, 1, none⟩ = some (.map (some m)) ∧ w.cell? ⟨r, 2, none⟩ = some (.bool fz) ∧ ∀ o, w.frozen? ⟨r, o, none⟩ = false :=
  ⟨cell_of_row _ _ _ _ _ _ h.hp, cell_of_row _ _ _ _ _ _ h.hp, cell_of_row _ _ _ _ _ _ h.hp, fun o => by simp [World.frozen?, h.hp]⟩
theorem GX.rm {w : World} {base r m : Nat} {vs : Value} {L : List Pvx} {fz : Bool} (h : GX w base r m vs L fz) : r ≠ m := by
  intro e
  subst e
  obtain ⟨D, ⟨es, cl, h1, _⟩, _⟩ := h.mv
  rw [h.hp] at h1; cases h1
theorem GX.form {w : World} {base r m : Nat} {vs : Value} {L : List Pvx} {fz : Bool} (h : GX w base r m vs L fz) : ∃ p cap, vs = .slice p L.length cap := let ⟨p, c, e, _⟩ := h.own.form; ⟨p, c, e⟩
/-- A row's block is neither the registry's nor the map's. -/
theorem GX.ne {α : Type} {K : RK α} {w : World} {base r m : Nat} {vs : Value} {L : List Pvx} {fz : Bool} (h : GX w base r m vs L fz) {b : Nat} {v : Value} {l : List α} (o : OwnG K w b v l) (hK : K.ty ≠ 66) {g : Nat} (hg : v.ownBlock = some g) : g ≠ r ∧ g ≠ m := by
  refine ⟨fun e => ?_, own_mp o h.mv hg⟩
  obtain ⟨cur, hc⟩ := o.ty hg
  subst e
  rw [h.hp] at hc
  injection hc with hc
  injection hc with _ hc _
  exact hK hc.symm
/-- What Add answers. -/
def addE (L : List Prv) (fz : Bool) (p : Prv) : Int := if fz = true then 7 else if prvE p ≠ 0 then prvE p else if idxN (nameL L) p.name < (nameL L).length then 6 else if 256 ≤ L.length then 3 else 0
def addN (L : List Prv) (fz : Bool) (p : Prv) : Nat := if addE L fz p = 0 then L.length else 0
def addL (L : List Prv) (fz : Bool) (p : Prv) : List Prv := if addE L fz p = 0 then L ++ [p] else L
theorem addE_ok {L : List Prv} {fz : Bool} {p : Prv} (h : addE L fz p = 0) : fz = false ∧ prvE p = 0 ∧ p.name ∉ nameL L ∧ L.length < 256 := by
  unfold addE at h
  cases fz with
  | true => rw [if_pos rfl] at h; cases h
  | false =>
    rw [if_neg (by decide)] at h
    by_cases h1 : prvE p ≠ 0
    · rw [if_pos h1] at h; exact absurd h h1
    · rw [if_neg h1] at h
      by_cases h2 : p.name ∈ nameL L
      · rw [if_pos (idxN_lt.2 h2)] at h; cases h
      · rw [if_neg (fun q => h2 (idxN_lt.1 q))] at h
        by_cases h3 : 256 ≤ L.length
        · rw [if_pos h3] at h; cases h
        · exact ⟨rfl, by simpa using h1, h2, by omega⟩
/-- One more. -/
theorem GX.add {w w2 w3 w4 w5 : World} {base r m : Nat} {vs : Value} {L : List Pvx} {x : Pvx} (h : GX w base r m vs L false) (he : addE (pL L) false x.p = 0) (htx : ∀ c ∈ x.p.ops, c.text.size ≤ maxLen) (hnm : x.p.name.size ≤ maxLen)
    (b2 : Below w.heap.size w w2) (o2 : OwnG KO w2 w.heap.size x.v x.p.ops) {g cap : Nat}
    (o3 : OwnG KP w3 base (.slice (some ⟨g, 0, none⟩) (L.length + 1) cap) (L ++ [x])) (b3 : Below base w2 w3) (k3 : ∀ k, k < w2.heap.size → some k ≠ vs.ownBlock → w3.heap[k]? = w2.heap[k]?) (hg : vs.ownBlock = some g ∨ w2.heap.size ≤ g)
    (e4 : w4 = w3.setCell ⟨r, 0, none⟩ (.slice (some ⟨g, 0, none⟩) (L.length + 1) cap)) (m5 : MV w5 m (L.length + 1) (putF (numF (nameL (pL L))) x.p.name (.int .i64 (L.length : Nat)))) (b5 : But (fun y => y = m) w4 w5) :
    GX w5 base r m (.slice (some ⟨g, 0, none⟩) (L.length + 1) cap) (L ++ [x]) false ∧ But (FX r m vs) w w5 ∧ (vs.ownBlock = some g ∨ w.heap.size ≤ g) := by
  obtain ⟨_, hp0, hn0, hl0⟩ := addE_ok he
  rw [pL_len] at hl0
  have h2 := h.below b2
  have rl2 := lt_heap h2.hp
  have z2 := b2.size
  have z3 := b3.size
  have zb : base ≤ w.heap.size := Nat.le_trans h.gr (Nat.le_of_lt (lt_heap h.hp))
  have nr : some r ≠ vs.ownBlock := fun e => (h2.ne h2.own (by decide) e.symm).1 rfl
  have nm : some m ≠ vs.ownBlock := fun e => (h2.ne h2.own (by decide) e.symm).2 rfl
  have gr : g ≠ r := fun e => by
    rcases hg with q | q
    · exact nr (by rw [q, e])
    · omega
  have gm : g ≠ m := fun e => by
    rcases hg with q | q
    · exact nm (by rw [q, e])
    · have := h2.mv.lt; omega
  have z4 : w4.heap.size = w3.heap.size := by rw [e4]; simp
  have k4 : ∀ y, y ≠ r → w4.heap[y]? = w3.heap[y]? := fun y hy => by rw [e4]; exact Below.heap_setCell _ _ _ _ hy
  have z5 := b5.size
  have kk : ∀ y, y < w2.heap.size → y ≠ r → y ≠ m → some y ≠ vs.ownBlock → w5.heap[y]? = w2.heap[y]? := fun y h1 h2 h3 h4 => by
    rw [b5.block y (by omega) h3, k4 y h2, k3 y h1 h4]
  have hp3 : w3.heap[r]? = some (.cells #[vs, .map (some m), .bool false] 66) := (k3 r rl2 nr).trans h2.hp
  have hp4 : w4.heap[r]? = some (.cells #[.slice (some ⟨g, 0, none⟩) (L.length + 1) cap, .map (some m), .bool false] 66) := by
    rw [e4]; exact heap_setCell_same w3 r 0 _ _ _ hp3
  have epl : pL (L ++ [x]) = pL L ++ [x.p] := by unfold pL; rw [List.map_append]; rfl
  have enl : nameL (pL (L ++ [x])) = nameL (pL L) ++ [x.p.name] := by rw [epl]; unfold nameL; rw [List.map_append]; rfl
  have el : (L ++ [x]).length = L.length + 1 := by simp
  have len : (nameL (pL L)).length = L.length := by rw [nameL_len]
  refine ⟨⟨?_, ?_, ?_, ?_, ?_, ?_, ?_, ?_, ?_, h.gr, h.gm⟩, ⟨?_, ?_, ?_, ?_, ?_⟩, ?_⟩
  · rw [b5.block r (by omega) h.rm]; exact hp4
  · rw [el, enl, ← numF_put hn0, len]; exact m5
  · refine o3.far (fun q hq => ?_)
    have e : g = q := by simpa [Value.ownBlock] using hq
    subst e
    rw [b5.block _ (by have := (o3.lt hq).2; omega) gm, k4 _ gr]
  · intro y hy
    have far2 : ∀ (yv : Value) (ops : List Opn), OwnG KO w2 base yv ops → OwnG KO w5 base yv ops := fun yv ops o => o.far (fun q hq => by
      have h9 := h2.ne o (by decide) hq
      exact kk q (o.lt hq).2 h9.1 h9.2 (own_apart (by decide) o h2.own hq))
    rcases List.mem_append.1 hy with hy | hy
    · exact far2 _ _ ((h2.each y hy))
    · obtain rfl := List.mem_singleton.1 hy
      exact far2 _ _ (o2.low zb)
  · intro y hy
    rcases List.mem_append.1 hy with hy | hy
    · exact h.ok y hy
    · obtain rfl := List.mem_singleton.1 hy; exact hp0
  · intro y hy
    rcases List.mem_append.1 hy with hy | hy
    · exact h.tx y hy
    · obtain rfl := List.mem_singleton.1 hy; exact htx
  · intro y hy
    rcases List.mem_append.1 hy with hy | hy
    · exact h.nm y hy
    · obtain rfl := List.mem_singleton.1 hy; exact hnm
  · rw [enl]
    refine List.nodup_append.2 ⟨h.nd, by simp, fun a ha b hb => ?_⟩
    obtain rfl := List.mem_singleton.1 hb
    exact fun e => hn0 (e ▸ ha)
  · rw [el]; omega
  · rw [b5.os, e4]; exact b3.os.trans b2.os
  · rw [b5.tape, e4]; exact b3.tape.trans b2.tape
  · rw [b5.output, e4]; exact b3.output.trans b2.output
  · omega
  · intro y h1 h2
    have h3 : ¬ (y = r ∨ y = m ∨ vs.ownBlock = some y) := h2
    rw [kk y (by omega) (fun e => h3 (Or.inl e)) (fun e => h3 (Or.inr (Or.inl e))) (fun e => h3 (Or.inr (Or.inr e.symm)))]
    exact b2.block y h1
  · rcases hg with q | q
    · exact Or.inl q
    · exact Or.inr (by omega)
/-- Frozen. -/
theorem GX.freeze {w : World} {base r m : Nat} {vs : Value} {L : List Pvx} {fz : Bool} (h : GX w base r m vs L fz) : GX (w.setCell ⟨r, 2, none⟩ (.bool true)) base r m vs L true ∧ But (FX r m vs) w (w.setCell ⟨r, 2, none⟩ (.bool true)) := by
  have k : ∀ y, y ≠ r → (w.setCell ⟨r, 2, none⟩ (.bool true)).heap[y]? = w.heap[y]? := fun y hy => Below.heap_setCell _ _ _ _ hy
  refine ⟨{ h with hp := heap_setCell_same w r 2 _ _ _ h.hp, mv := h.mv.far (k m h.rm.symm), own := h.own.far (fun g hg => k g (h.ne h.own (by decide) hg).1), each := fun x hx => (h.each x hx).far (fun g hg => k g (h.ne (h.each x hx) (by decide) hg).1) }, ⟨rfl, rfl, rfl, by simp, fun y _ hy => k y (fun e => hy (Or.inl e))⟩⟩
end Go.Proofs.YtffabehipcomfaaDoor
namespace Go.Proofs.YtffabehipcomfaaDoor
open Go.RowKit Go.Maps

theorem balr (w : World) (ob : Obj) : Below w.heap.size w (w.alloc ob) := (Below.refl _ _).alloc (Nat.le_refl _) ob
theorem blr {a b c : World} (h : Below a.heap.size a b) (k : Below b.heap.size b c) : Below a.heap.size a c := h.trans (k.mono h.size)
theorem zeroI (w : World) : (zeroValue 3).run Tryd.prog w = .ok (.int .i64 0) w := by kernel_rfl
theorem MV.lookOk {w : World} {b n : Nat} {f : ByteArray → Option Value} (h : MV w b n f) {t e : TypeId} (ht : Tryd.prog.underlying t = some (.map 9 e)) {z : Value} (hz : (zeroValue e).run Tryd.prog w = .ok z w) {s : ByteArray} (hs : s.size ≤ maxLen) :
    (Instr.lookup t (.map (some b)) (.string s) true).run Tryd.prog w = .ok (.tuple #[(f s).getD z, .bool (f s).isSome]) w := by
  obtain ⟨D, h1, h2, h3⟩ := h
  obtain ⟨v, ps, hrun, hv⟩ := h1.look_ok lawS ht hz (show hE z = some (.held z, []) from rfl) (key_mk hs)
  rw [h3] at hv
  have e1 : v = (f s).getD z := hE_inj hv
  rw [hrun, h2, e1]
theorem gx_new (w : World) : GX ((w.alloc (.map #[] 0)).alloc (.cells #[.slice none 0 0, .map (some w.heap.size), .bool false] 66)) w.heap.size (w.heap.size + 1) w.heap.size (.slice none 0 0) [] false := by
  refine ⟨?_, ?_, OwnG.nil _ _ _, (fun x h => by cases h), (fun x h => by cases h), (fun x h => by cases h), (fun x h => by cases h), by simp [nameL, pL], by simp, by omega, by omega⟩
  · have := heap_alloc_new (w.alloc (.map #[] 0)) (.cells #[.slice none 0 0, .map (some w.heap.size), .bool false] 66)
    rw [show (w.alloc (.map #[] 0)).heap.size = w.heap.size + 1 by simp] at this
    exact this
  · exact ((MV.made w).below (balr _ _)).congr (fun s => by simp [numF, nameL, pL, idxN])
set_option maxHeartbeats 2000000 in
theorem new_any (w : World) : Calls Tryd.prog 12 #[] w fun e w' => e = .returned (.pointer (some ⟨w.heap.size + 1, 0, none⟩)) ∧ GX w' w.heap.size (w.heap.size + 1) w.heap.size (.slice none 0 0) [] false ∧ Below w.heap.size w w' := by
  have hmm := @run_makeMap Tryd.prog
  have R := hidr (gx_new w)
  go_enter Tryd.func12, Tryd.ntmps12
  go_wp2
  go_ret
  exact ⟨rfl, R.out, blr (balr _ _) (balr _ _)⟩
set_option maxHeartbeats 4000000 in
theorem copied_any (p : Prv) (ve : Value) (w : World) (h : PS w p ve) (hl : p.ops.length ≤ 1000000) :
    Calls Tryd.prog 25 #[prvV p ve] w fun e w' => ∃ q c, e = .returned (prvV p (.slice q p.ops.length c)) ∧ OwnG KO w' w.heap.size (.slice q p.ops.length c) p.ops ∧ Below w.heap.size w w' := by
  have AL : Hid (∀ o1 o2, Below w.heap.size w ((w.alloc o1).alloc o2)) := fun o1 o2 => ((Below.refl _ _).alloc (Nat.le_refl _) o1).alloc (by simp) o2
  have CE : Hid (∀ w1, Below w.heap.size w w1 → _) := fun w1 b => cloneO_any w1 ve p.ops (h.os.below b) hl
  have PX : Hid (∀ ob, PBx ((w.alloc (.cells (prvC p ve) 37)).alloc ob) w.heap.size p ve) := fun ob => PBx.below (heap_alloc_new w (.cells (prvC p ve) 37)) ((Below.refl _ _).alloc (Nat.le_refl _) ob)
  have PY : Hid (∀ w1, PBx w1 w.heap.size p ve → _) := fun w1 h => PBx.cells h
  obtain ⟨pe, ce, hve⟩ := h.os.form
  subst hve
  obtain ⟨nm, ops, ag, ⟨pt, pb, pf, pc⟩, ck, ct⟩ := p
  simp only [prvV, prvC] at *
  clear h
  go_enter Tryd.func25, Tryd.ntmps25
  go_wp2_with fail
  refine Calls.mono (CE.out _ (AL.out _ _)) ?_
  rintro e w1 ⟨q, c, rfl, ho1, hb1⟩
  have B1 : Hid (Below w.heap.size w w1) := (AL.out _ _).trans (hb1.mono (AL.out _ _).size)
  have P1 : Hid _ := PBx.below (PX.out _) hb1
  obtain ⟨y0, y1, y2, y3, y4, y5, y6, y7, y8⟩ := PY.out _ P1.out
  have fz : ∀ o, w1.frozen? ⟨w.heap.size, o, none⟩ = false := fun o => box_frozen P1.out
  have Q1 : Hid (w1.heap[w.heap.size + 1]? = some (.cells zPrv 37)) := by
    have e := heap_alloc_new (w.alloc (.cells #[.string nm, .slice pe ops.length ce, .bool ag, .int .i64 pt, .int .i64 pb, .int .i64 pf, .int .i64 pc, .int .i64 ck, .string ct] 37)) (.cells zPrv 37)
    rw [show (w.alloc (.cells #[.string nm, .slice pe ops.length ce, .bool ag, .int .i64 pt, .int .i64 pb, .int .i64 pf, .int .i64 pc, .int .i64 ck, .string ct] 37)).heap.size = w.heap.size + 1 by simp] at e
    exact (hb1.block (w.heap.size + 1) (by simp)).trans e
  obtain ⟨z0, z1, z2, z3, z4, z5, z6, z7, z8⟩ := zPrv_cells Q1.out
  have fz2 : ∀ o, w1.frozen? ⟨w.heap.size + 1, o, none⟩ = false := fun o => box_frozen Q1.out
  have O1 : Hid (OwnG KO w1 (w.heap.size + 2) (.slice q ops.length c) ops) := ho1.low (by simp)
  clear hb1 ho1 AL CE PX PY
  go_wp2_with fail
  refine bodyPost_ret (v := .agg #[.string nm, .slice q ops.length c, .bool ag, .int .i64 pt, .int .i64 pb, .int .i64 pf, .int .i64 pc, .int .i64 ck, .string ct]) (by simp [results, Tryd.results25, go_sem, *]) rfl ?_
  refine ⟨q, c, rfl, (O1.out.low (by omega)).far (fun g hg => ?_), ?_⟩
  · have hgg := (O1.out.lt hg).1
    repeat rw [set_far (show g ≠ _ by omega)]
  · repeat' refine Below.setCell ?_ (by simp) _
    exact B1.out
set_option maxHeartbeats 8000000 in
set_option maxRecDepth 100000 in
theorem checkNew_any (p : Prv) (ve : Value) (w : World) {base r m : Nat} {vs : Value} {L : List Pvx} {fz : Bool} (h : GX w base r m vs L fz) (hp : PS w p ve) (hv : NV w) :
    Calls Tryd.prog 26 #[.pointer (some ⟨r, 0, none⟩), prvV p ve] w fun e w' => e = .returned (.int .i64 (addE (pL L) fz p)) ∧ Below w.heap.size w w' := by
  have AL : Hid (∀ ob, Below w.heap.size w (w.alloc ob)) := fun ob => balr _ ob
  have IC : Hid (∀ w1, Below w.heap.size w w1 → _) := fun w1 b => checkProv_any p ve w1 (hp.below b) (hv.below b)
  have PX : Hid (PBx (w.alloc (.cells (prvC p ve) 37)) w.heap.size p ve) := heap_alloc_new _ _
  have PY : Hid (∀ w1, PBx w1 w.heap.size p ve → _) := fun w1 h => PBx.cells h
  have HX : Hid (∀ w1, Below w.heap.size w w1 → GX w1 base r m vs L fz) := fun w1 b => h.below b
  have HE : Hid (addE (pL L) fz p = if fz = true then 7 else if prvE p ≠ 0 then prvE p else if idxN (nameL (pL L)) p.name < (nameL (pL L)).length then 6 else if 256 ≤ (pL L).length then 3 else 0) := rfl
  have hnm := hp.nm
  have MK : Hid (∀ w1, Below w.heap.size w w1 → ∀ f, f = numF (nameL (pL L)) → MV w1 m L.length f) := fun w1 b f e => by rw [e]; exact (h.below b).mv
  obtain ⟨c0, c1, c2, _⟩ := (h.below (AL.out (.cells (prvC p ve) 37))).cells
  have hln := h.ln
  obtain ⟨pv, cv, rfl⟩ := h.form
  obtain ⟨pe, ce, hve⟩ := hp.os.form
  have hl2 : (pL L).length = L.length := pL_len L
  generalize addE (pL L) fz p = r0 at *
  generalize prvE p = rc at *
  subst hve
  obtain ⟨nm, ops, ag, ⟨pt, pb, pf, pc⟩, ck, ct⟩ := p
  simp only [prvV, prvC] at *
  rw [hl2] at HE
  clear h hp hv hl2
  go_enter Tryd.func26, Tryd.ntmps26
  cases fz with
  | true =>
    go_wp2_with fail
    go_ret
    exact ⟨ret_int (by rw [HE.out]; rfl), AL.out _⟩
  | false =>
    obtain ⟨y0, y1, y2, y3, y4, y5, y6, y7, y8⟩ := PY.out _ PX.out
    go_wp2_with fail
    refine Calls.mono (IC.out _ (AL.out _)) ?_
    rintro e w2 ⟨rfl, hb2⟩
    have B2 := hidr (blr (AL.out _) hb2)
    have P2 := hidr (PBx.below PX.out hb2)
    clear hb2 y0 y1 y2 y3 y4 y5 y6 y7 y8 c0 c1 c2
    by_cases hc : rc = 0
    · subst hc
      obtain ⟨y0, y1, y2, y3, y4, y5, y6, y7, y8⟩ := PY.out _ P2.out
      obtain ⟨c0, c1, c2, _⟩ := (HX.out _ B2.out).cells
      by_cases hin : nm ∈ nameL (pL L)
      · obtain ⟨k, hk⟩ : ∃ k : Nat, numF (nameL (pL L)) nm = some (.int .i64 k) := ⟨_, by unfold numF; rw [if_pos (idxN_lt.2 hin)]⟩
        have HE2 : Hid (r0 = 6) := by show _ = _; rw [HE.out, if_neg (by decide), if_neg (by simp), if_pos (idxN_lt.2 hin)]
        have LK : Hid (∀ w', Below w.heap.size w w' → (Instr.lookup 64 (.map (some m)) (.string nm) true).run Tryd.prog w' = .ok (.tuple #[.int .i64 k, .bool true]) w') := fun w' b => by
          rw [(MK.out w' b _ rfl).lookOk Tryd.underlying64 (zeroI _) hnm, hk]; rfl
        have k0 := LK.out w2 B2.out
        have k1 := LK.out w2.drew B2.out.drew
        clear HE HX MK IC PX PY AL hin LK hk
        go_wp2_with fail
        go_region
        all_goals
          go_wp2_with fail
          go_ret
          exact ⟨ret_int HE2.out.symm, B2.out.drew⟩
      · have hk : numF (nameL (pL L)) nm = none := by unfold numF; rw [if_neg (fun q => hin (idxN_lt.1 q))]
        have LK : Hid (∀ w', Below w.heap.size w w' → (Instr.lookup 64 (.map (some m)) (.string nm) true).run Tryd.prog w' = .ok (.tuple #[.int .i64 0, .bool false]) w') := fun w' b => by
          rw [(MK.out w' b _ rfl).lookOk Tryd.underlying64 (zeroI _) hnm, hk]; rfl
        have k0 := LK.out w2 B2.out
        have k1 := LK.out w2.drew B2.out.drew
        have c3 : w2.drew.cell? ⟨r, 0, none⟩ = some (.slice pv L.length cv) := c0
        obtain ⟨n, hn⟩ : ∃ n, n = L.length := ⟨_, rfl⟩
        rw [← hn] at c0 c3 HE hln
        have HN := hidr hn
        have HE3 : Hid (r0 = if 256 ≤ n then 3 else 0) := by show _ = _; rw [HE.out, if_neg (by decide), if_neg (by simp), if_neg (fun q => hin (idxN_lt.1 q))]
        clear HE HX MK IC PX PY AL hin LK hk hn
        by_cases hge : 256 ≤ n
        · have h1 : (256 : Int) ≤ (n : Int) := by omega
          have HE2 : Hid (r0 = 3) := by show _ = _; rw [HE3.out, if_pos hge]
          clear HE3 hln
          go_wp2_with fail
          go_region
          all_goals
            go_wp2_with fail
            go_ret
            exact ⟨ret_int HE2.out.symm, B2.out.drew⟩
        · have h1 : ¬ (256 : Int) ≤ (n : Int) := by omega
          have HE2 : Hid (r0 = 0) := by show _ = _; rw [HE3.out, if_neg hge]
          clear HE3 hln
          go_wp2_with fail
          go_region
          all_goals
            go_wp2_with fail
            go_ret
            exact ⟨ret_int HE2.out.symm, B2.out.drew⟩
    · have hc2 : (rc != 0) = true := by simpa using hc
      go_wp2_with fail
      go_ret
      exact ⟨ret_int (by rw [HE.out]; simp [hc]), B2.out⟩
end Go.Proofs.YtffabehipcomfaaDoor
