/- Graph: what stands in memory while the document's Gates reckons. -/
import Derived.Test.YtghkhceplpjegaaYl0
namespace Go.Proofs.Ytghkhceplpjegaa
open Go.RowKit

/-- Rows of rows of truths. -/
def KT : RK Sl := ⟨49, 1, 24, .slice none 0 0, fun x => [.slice x.1 x.2.1 x.2.2]⟩
theorem KT_ok : KT.Ok Try.prog :=
  ⟨fun _ => rfl, fun x u hu => by simp [KT] at hu; subst hu; rfl, rfl, by decide, by decide, info_parts' (by kernel_rfl)⟩
theorem GS.atT {w : World} {p : Option Addr} {n cap k : Nat} {l : List Sl} (h : GS KT w (.slice p n cap) l) (hk : k < l.length) : ∃ X o, p = some ⟨X, o, none⟩ ∧ w.cell? ⟨X, o + k, none⟩ = some (slV l[k]) := by
  obtain ⟨X, o, h1, _, h2⟩ := GS.at h hk
  have := h2 0 _ rfl
  rw [show KT.W = 1 from rfl, Nat.mul_one] at this
  exact ⟨X, o, h1, this⟩
def upV (F : Nat → Sl) (y : Nat) (d : Sl) : Nat → Sl := fun x => if x = y then d else F x
theorem vset (N : Nat) (F : Nat → Sl) (i : Nat) (y : Sl) : ((List.range N).map F).set i y = (List.range N).map (upV F i y) := by
  apply List.ext_getElem
  · simp
  · intro k h1 h2
    rw [List.getElem_set]
    by_cases e : i = k
    · subst e; simp [upV]
    · rw [if_neg e]
      have : ¬ k = i := fun q => e q.symm
      simp [upV, this]
/-- A row of rows of truths, one a node. -/
def LFT (w : World) (base X N : Nat) (V : Nat → Sl) : Prop := OwnG KT w base (.slice (some ⟨X, 0, none⟩) N N) ((List.range N).map V)
theorem LFT.set {w : World} {base X N : Nat} {V : Nat → Sl} (h : LFT w base X N V) (i : Nat) (y : Sl) : LFT (w.setCell ⟨X, i, none⟩ (slV y)) base X N (upV V i y) := by
  have := OwnG.set1 rfl KT_ok.len h (k := i) y (slV y) rfl
  rw [vset] at this
  exact this
theorem LFT.at {w : World} {base X N : Nat} {V : Nat → Sl} (h : LFT w base X N V) {i : Nat} (hi : i < N) : w.cell? ⟨X, i, none⟩ = some (slV (V i)) ∧ w.frozen? ⟨X, i, none⟩ = false := by
  refine ⟨?_, own_frozen h i⟩
  obtain ⟨Y, o, e, hc⟩ := (h.gs KT_ok.len).atT (k := i) (by simpa using hi)
  injection e with e
  injection e with e1 e2 _
  subst e1 e2
  rw [Nat.zero_add] at hc
  rw [hc]
  simp
theorem LFT.far {w w' : World} {base X N : Nat} {V : Nat → Sl} (h : LFT w base X N V) (k : w'.heap[X]? = w.heap[X]?) : LFT w' base X N V := OwnG.far h fun g hg => by
  injection hg with hg
  have hg : X = g := hg
  rw [← hg]; exact k
theorem LFT.lt {w : World} {base X N : Nat} {V : Nat → Sl} (h : LFT w base X N V) : base ≤ X ∧ X < w.heap.size := OwnG.lt h (g := X) rfl
theorem LFT.none {w : World} {base X N : Nat} (h : OwnG KT w base (.slice (some ⟨X, 0, none⟩) N N) (List.replicate N sl0)) : LFT w base X N (fun _ => sl0) := by
  unfold LFT
  have : (List.range N).map (fun _ => sl0) = List.replicate N sl0 := by simp [List.map_const']
  rw [this]
  exact h
theorem LFR.eqN {w : World} {base X N : Nat} {F G : Nat → Int} (h : LFR w base X N F) (k : ∀ x, x < N → F x = G x) : LFR w base X N G := by
  have e : (List.range N).map F = (List.range N).map G := List.map_congr_left fun x hx => k x (by simpa using hx)
  unfold LFR
  rw [← e]
  exact h
theorem LFB.eqN {w : World} {base X N : Nat} {F G : Nat → Bool} (h : LFB w base X N F) (k : ∀ x, x < N → F x = G x) : LFB w base X N G := by
  have e : (List.range N).map F = (List.range N).map G := List.map_congr_left fun x hx => k x (by simpa using hx)
  unfold LFB
  rw [← e]
  exact h
theorem tr_ne {w : World} {b1 b2 X Y N M : Nat} {F : Nat → Int} {V : Nat → Sl} (h : LFR w b1 X N F) (k : LFT w b2 Y M V) : X ≠ Y := fun e => by
  obtain ⟨c, e2⟩ := OwnG.ty k (g := Y) rfl
  exact OwnG.notat h (B := Y) e2 (by decide) (by rw [← e]; rfl)
theorem tb_ne {w : World} {b1 b2 X Y N M : Nat} {S : Nat → Bool} {V : Nat → Sl} (h : LFB w b1 X N S) (k : LFT w b2 Y M V) : X ≠ Y := fun e => by
  obtain ⟨c, e2⟩ := OwnG.ty k (g := Y) rfl
  exact OwnG.notat h (B := Y) e2 (by decide) (by rw [← e]; rfl)
/-- The rows of the document's Gates: all, out, deep, lost; of each node that H has a row of its own stands. -/
structure DG (w : World) (N bs bo bd bt : Nat) (A : Nat → Bool) (F D : Nat → Int) (V : Nat → Sl) (H : Nat → Bool) (G : Nat → Nat → Bool) (wr : World) : Prop where
  bl : Below w.heap.size w wr
  al : LFB wr w.heap.size bs N A
  ou : LFR wr w.heap.size bo N F
  de : LFR wr w.heap.size bd N D
  lo : LFT wr w.heap.size bt N V
  rs : ∀ i, H i = true → ∃ b, V i = (some ⟨b, 0, none⟩, N, N) ∧ LFB wr w.heap.size b N (G i)
  od : bo ≠ bd
theorem DG.below {w : World} {N bs bo bd bt : Nat} {A : Nat → Bool} {F D : Nat → Int} {V : Nat → Sl} {H : Nat → Bool} {G : Nat → Nat → Bool} {wr w' : World} (h : DG w N bs bo bd bt A F D V H G wr) (k : Below wr.heap.size wr w') : DG w N bs bo bd bt A F D V H G w' :=
  ⟨bl3 h.bl k, OwnG.below h.al k, OwnG.below h.ou k, OwnG.below h.de k, OwnG.below h.lo k, fun i hi => by
    obtain ⟨b, e, o⟩ := h.rs i hi
    exact ⟨b, e, OwnG.below o k⟩, h.od⟩
theorem DG.out {w : World} {N bs bo bd bt : Nat} {A : Nat → Bool} {F D : Nat → Int} {V : Nat → Sl} {H : Nat → Bool} {G : Nat → Nat → Bool} {wr : World} (h : DG w N bs bo bd bt A F D V H G wr) (i : Nat) (y : Int) : DG w N bs bo bd bt A (upF F i y) D V H G (wr.setCell ⟨bo, i, none⟩ (.int .i64 y)) :=
  ⟨h.bl.setCell (p := ⟨bo, _, none⟩) h.ou.lt.1 _, h.al.far (set_far fun e => rb_ne h.ou h.al e.symm), h.ou.set i y, h.de.far (set_far fun e => h.od e.symm), h.lo.far (set_far fun e => tr_ne h.ou h.lo e.symm), fun j hj => by
    obtain ⟨b, e, o⟩ := h.rs j hj
    exact ⟨b, e, o.far (set_far fun q => rb_ne h.ou o q.symm)⟩, h.od⟩
theorem DG.eq {w : World} {N bs bo bd bt : Nat} {A : Nat → Bool} {F F' D D' : Nat → Int} {V : Nat → Sl} {H : Nat → Bool} {G : Nat → Nat → Bool} {wr : World} (h : DG w N bs bo bd bt A F D V H G wr) (k : ∀ x, x < N → F x = F' x) (k2 : ∀ x, x < N → D x = D' x) : DG w N bs bo bd bt A F' D' V H G wr := ⟨h.bl, h.al, h.ou.eqN k, h.de.eqN k2, h.lo, h.rs, h.od⟩
theorem DG.drew {w : World} {N bs bo bd bt : Nat} {A : Nat → Bool} {F D : Nat → Int} {V : Nat → Sl} {H : Nat → Bool} {G : Nat → Nat → Bool} {wr : World} (h : DG w N bs bo bd bt A F D V H G wr) : DG w N bs bo bd bt A F D V H G wr.drew := h.below (drew_below wr 1)
theorem DG.less {w : World} {N bs bo bd bt : Nat} {A : Nat → Bool} {F D : Nat → Int} {V : Nat → Sl} {H H' : Nat → Bool} {G : Nat → Nat → Bool} {wr : World} (h : DG w N bs bo bd bt A F D V H G wr) (k : ∀ x, H' x = true → H x = true) : DG w N bs bo bd bt A F D V H' G wr := ⟨h.bl, h.al, h.ou, h.de, h.lo, fun i hi => h.rs i (k i hi), h.od⟩
/-- While one node's row is written. -/
structure DI (w W0 : World) (N bs bd bt bn bx : Nat) (A T : Nat → Bool) (D : Nat → Int) (V : Nat → Sl) (R : Nat → Bool) (wr : World) : Prop where
  fr : ∀ k, k < W0.heap.size → k ≠ bd → k ≠ bt → wr.heap[k]? = W0.heap[k]?
  sz : W0.heap.size ≤ wr.heap.size
  bl : Below w.heap.size w wr
  al : LFB wr w.heap.size bs N A
  de : LFR wr w.heap.size bd N D
  lo : LFT wr w.heap.size bt N V
  rn : LFB wr w.heap.size bn N R
  th : LFB wr w.heap.size bx N T
  nn : W0.heap.size ≤ bn
  nx : bx ≠ bn
  ns : bs ≠ bn
theorem DI.row {w W0 : World} {N bs bd bt bn bx : Nat} {A T : Nat → Bool} {D : Nat → Int} {V : Nat → Sl} {R : Nat → Bool} {wr : World} (h : DI w W0 N bs bd bt bn bx A T D V R wr) (k : Nat) (y : Bool) : DI w W0 N bs bd bt bn bx A T D V (upB R k y) (wr.setCell ⟨bn, k, none⟩ (.bool y)) :=
  ⟨fun j hj h1 h2 => (set_far (by have := h.nn; omega)).trans (h.fr j hj h1 h2), by simp [World.setCell]; exact h.sz, h.bl.setCell (p := ⟨bn, _, none⟩) h.rn.lt.1 _, h.al.far (set_far h.ns), h.de.far (set_far fun e => rb_ne h.de h.rn e), h.lo.far (set_far fun e => tb_ne h.rn h.lo e.symm), h.rn.set k y, h.th.far (set_far h.nx), h.nn, h.nx, h.ns⟩
theorem DI.deep {w W0 : World} {N bs bd bt bn bx : Nat} {A T : Nat → Bool} {D : Nat → Int} {V : Nat → Sl} {R : Nat → Bool} {wr : World} (h : DI w W0 N bs bd bt bn bx A T D V R wr) (k : Nat) (y : Int) : DI w W0 N bs bd bt bn bx A T (upF D k y) V R (wr.setCell ⟨bd, k, none⟩ (.int .i64 y)) :=
  ⟨fun j hj h1 h2 => (set_far h1).trans (h.fr j hj h1 h2), by simp [World.setCell]; exact h.sz, h.bl.setCell (p := ⟨bd, _, none⟩) h.de.lt.1 _, h.al.far (set_far fun e => rb_ne h.de h.al e.symm), h.de.set k y, h.lo.far (set_far fun e => tr_ne h.de h.lo e.symm), h.rn.far (set_far fun e => rb_ne h.de h.rn e.symm), h.th.far (set_far fun e => rb_ne h.de h.th e.symm), h.nn, h.nx, h.ns⟩
theorem DI.eq {w W0 : World} {N bs bd bt bn bx : Nat} {A T : Nat → Bool} {D D' : Nat → Int} {V : Nat → Sl} {R R' : Nat → Bool} {wr : World} (h : DI w W0 N bs bd bt bn bx A T D V R wr) (k : ∀ x, x < N → D x = D' x) (k2 : ∀ x, x < N → R x = R' x) : DI w W0 N bs bd bt bn bx A T D' V R' wr := ⟨h.fr, h.sz, h.bl, h.al, h.de.eqN k, h.lo, h.rn.eqN k2, h.th, h.nn, h.nx, h.ns⟩
theorem DI.drew {w W0 : World} {N bs bd bt bn bx : Nat} {A T : Nat → Bool} {D : Nat → Int} {V : Nat → Sl} {R : Nat → Bool} {wr : World} (h : DI w W0 N bs bd bt bn bx A T D V R wr) : DI w W0 N bs bd bt bn bx A T D V R wr.drew :=
  ⟨h.fr, h.sz, h.bl.trans ((drew_below wr 1).mono h.bl.size), h.al.far rfl, h.de.far rfl, h.lo.far rfl, h.rn.far rfl, h.th.far rfl, h.nn, h.nx, h.ns⟩
/-- The beginning of it: the row made, written into lost, and what is reached without the node. -/
theorem DG.row {w : World} {N bs bo bd bt : Nat} {A : Nat → Bool} {F D : Nat → Int} {V : Nat → Sl} {H : Nat → Bool} {G : Nat → Nat → Bool} {W0 : World} (h : DG w N bs bo bd bt A F D V H G W0) (n : Nat) {W1 W2 : World} {bn bx : Nat} {T : Nat → Bool} (h1 : LFB W1 W0.heap.size bn N (fun _ => false)) (b1 : Below W0.heap.size W0 W1) (h2 : LFB W2 W1.heap.size bx N T) (b2 : Below W1.heap.size (W1.setCell ⟨bt, n, none⟩ (.slice (some ⟨bn, 0, none⟩) N N)) W2) : DI w W0 N bs bd bt bn bx A T D (upV V n (some ⟨bn, 0, none⟩, N, N)) (fun _ => false) W2 := by
  have l0 := h.al.lt
  have l1 := h.lo.lt
  have l2 := h.de.lt
  have l3 := h1.lt
  have l4 := h2.lt
  have s1 := b1.size
  have s2 := b2.size
  have s0 := h.bl.size
  have lo1 : LFT W1 w.heap.size bt N V := OwnG.below h.lo b1
  have blk : ∀ k, k < W1.heap.size → k ≠ bt → W2.heap[k]? = W1.heap[k]? := fun k hk hn => (b2.block k hk).trans (set_far hn)
  have s3 : W1.heap.size ≤ W2.heap.size := by
    have : (W1.setCell ⟨bt, n, none⟩ (.slice (some ⟨bn, 0, none⟩) N N)).heap.size = W1.heap.size := by simp [World.setCell]
    omega
  refine ⟨fun k hk _ h4 => (blk k (by omega) h4).trans (b1.block k hk), by omega, ?_, ?_, ?_, ?_, ?_, h2.low (by omega), l3.1, by omega, by omega⟩
  · exact ((bl3 h.bl b1).setCell (p := ⟨bt, n, none⟩) l1.1 _).trans (b2.mono (by omega))
  · exact (h.al.far (b1.block _ l0.2)).far (blk _ (by omega) (tb_ne h.al h.lo))
  · exact (h.de.far (b1.block _ l2.2)).far (blk _ (by omega) (tr_ne h.de h.lo))
  · exact (lo1.set n (some ⟨bn, 0, none⟩, N, N)).far (b2.block _ (by omega))
  · exact (h1.low (by omega)).far (blk _ (by omega) (by omega))
/-- The end of it. -/
theorem DG.next {w : World} {N bs bo bd bt : Nat} {A : Nat → Bool} {F D D' : Nat → Int} {V : Nat → Sl} {H H' : Nat → Bool} {G : Nat → Nat → Bool} {W0 : World} (h : DG w N bs bo bd bt A F D V H G W0) {n : Nat} {wr : World} {bn bx : Nat} {T : Nat → Bool} (k : DI w W0 N bs bd bt bn bx A T D' (upV V n (some ⟨bn, 0, none⟩, N, N)) (G n) wr) (hH : ∀ i, H' i = true → i ≠ n → H i = true) : DG w N bs bo bd bt A F D' (upV V n (some ⟨bn, 0, none⟩, N, N)) H' G wr := by
  refine ⟨k.bl, k.al, h.ou.far (k.fr _ h.ou.lt.2 h.od (tr_ne h.ou h.lo)), k.de, k.lo, fun i hi => ?_, h.od⟩
  by_cases e : i = n
  · exact ⟨bn, by unfold upV; rw [if_pos e], by rw [e]; exact k.rn⟩
  · obtain ⟨b, e1, o⟩ := h.rs i (hH i hi e)
    exact ⟨b, by unfold upV; rw [if_neg e]; exact e1, o.far (k.fr _ o.lt.2 (fun q => rb_ne h.de o q.symm) (tb_ne o h.lo))⟩
end Go.Proofs.Ytghkhceplpjegaa
