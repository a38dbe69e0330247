/- Depend: rows of numbers and of ties; what a call leaves as it was; a web in memory. -/
import Derived.Test.YtkhcinpcoabphaaProg
import Derived.Test.YtkhcinpcoabphaaGr1
import Derived.Test.YtkhcinpcoabphaaGr2
import Derived.Test.YtkhcinpcoabphaaDa3
import Derived.Deep.RegionHeld3
import Derived.Laws.StructEq
import Derived.Laws.EntriesVeiled
import Derived.Handy
import Derived.BigQuiet
import Derived.BigRegion
namespace Go.Proofs.Ytkhcinpcoabphaa
open Go.RowKit

theorem hid {p : Prop} (h : p) : Hid p := h
theorem ret_bool {a b : Bool} (h : a = b) : Ending.returned (.bool a) = .returned (.bool b) := by rw [h]
theorem ret_i {a b : Int} (h : a = b) : Ending.returned (.int .i64 a) = .returned (.int .i64 b) := by rw [h]
theorem ret_ib {a b : Int} {c d : Bool} (h : a = b) (k : c = d) : Ending.returned (.tuple #[.int .i64 a, .bool c]) = .returned (.tuple #[.int .i64 b, .bool d]) := by rw [h, k]
theorem lt_of_heap {w : World} {b : Nat} {o : Obj} (h : w.heap[b]? = some o) : b < w.heap.size := (Array.getElem?_eq_some_iff.1 h).1
theorem drew_below (w : World) (n : Nat) : Below w.heap.size w (w.drewN n) := ⟨rfl, rfl, rfl, Nat.le_refl _, fun _ _ => rfl⟩
theorem bl2 {w w1 : World} {ob : Obj} (h : Below (w.alloc ob).heap.size (w.alloc ob) w1) : Below w.heap.size w w1 := ((Below.refl _ _).alloc (Nat.le_refl _) ob).trans (h.mono (by simp))
theorem bl3 {w w1 w2 : World} (h : Below w.heap.size w w1) (k : Below w1.heap.size w1 w2) : Below w.heap.size w w2 := h.trans (k.mono h.size)
theorem bal (w : World) (ob : Obj) : Below w.heap.size w (w.alloc ob) := (Below.refl _ _).alloc (Nat.le_refl _) ob
theorem info_parts' {P : Program} {t : TypeId} {z : Value} {n m : Nat} (h : (P.info? t).map (fun i => (i.zero, i.size, i.bytes)) = some (some z, n, m)) : ∃ i, P.info? t = some i ∧ i.zero = some z ∧ i.size = n ∧ i.bytes = m := by
  obtain ⟨i, h1, h2⟩ := Option.map_eq_some_iff.1 h
  simp only [Prod.mk.injEq] at h2
  exact ⟨i, h1, h2.1, h2.2.1, h2.2.2⟩
def KI : RK Int := ⟨3, 1, 8, .int .i64 0, fun x => [.int .i64 x]⟩
theorem KI_ok : KI.Ok Try.prog :=
  ⟨fun _ => rfl, fun x u hu => by simp [KI] at hu; subst hu; rfl, rfl, by decide, by decide, info_parts' (by kernel_rfl)⟩
theorem GS.atI {w : World} {p : Option Addr} {n cap k : Nat} {l : List Int} (h : GS KI w (.slice p n cap) l) (hk : k < l.length) : ∃ X o, p = some ⟨X, o, none⟩ ∧ w.cell? ⟨X, o + k, none⟩ = some (.int .i64 l[k]) := by
  obtain ⟨X, o, h1, _, h2⟩ := GS.at h hk
  have := h2 0 _ rfl
  rw [show KI.W = 1 from rfl, Nat.mul_one] at this
  exact ⟨X, o, h1, this⟩
theorem own_frozen {α : Type} {K : RK α} {w : World} {base g n cap : Nat} {l : List α} (h : OwnG K w base (.slice (some ⟨g, 0, none⟩) n cap) l) : ∀ o, w.frozen? ⟨g, o, none⟩ = false := by
  rcases h.2 with ⟨e, _⟩ | ⟨g', cp, cur, e1, _, e3, _⟩
  · cases e
  · injection e1 with e1 _ _
    injection e1 with e1
    injection e1 with e1 _ _
    subst e1
    intro o
    simp [World.frozen?, e3]
structure But (F : Nat → Prop) (a b : World) : Prop where
  os : b.os = a.os
  tape : b.tape = a.tape
  output : b.output = a.output
  size : a.heap.size ≤ b.heap.size
  block : ∀ x, x < a.heap.size → ¬ F x → b.heap[x]? = a.heap[x]?
theorem But.of_below {F : Nat → Prop} {a b : World} (h : Below a.heap.size a b) : But F a b := ⟨h.os, h.tape, h.output, h.size, fun x hx _ => h.block x hx⟩
theorem But.refl (F : Nat → Prop) (a : World) : But F a a := ⟨rfl, rfl, rfl, Nat.le_refl _, fun _ _ _ => rfl⟩
theorem But.trans {F G : Nat → Prop} {a b c : World} (h : But F a b) (k : But G b c) (hG : ∀ x, G x → F x ∨ a.heap.size ≤ x) : But F a c :=
  ⟨k.os.trans h.os, k.tape.trans h.tape, k.output.trans h.output, Nat.le_trans h.size k.size, fun x hx hn => (k.block x (Nat.lt_of_lt_of_le hx h.size) (fun hg => by rcases hG x hg with e | e; exact hn e; omega)).trans (h.block x hx hn)⟩
theorem But.set {w : World} (b o : Nat) (u : Value) : But (fun x => x = b) w (w.setCell ⟨b, o, none⟩ u) :=
  ⟨rfl, rfl, rfl, by simp [World.setCell], fun x _ hn => Below.heap_setCell _ _ _ _ hn⟩
theorem But.drew {F : Nat → Prop} {a b : World} (h : But F a b) : But F a b.drew := ⟨h.os, h.tape, h.output, h.size, h.block⟩
theorem But.drewN {F : Nat → Prop} {a b : World} (h : But F a b) (n : Nat) : But F a (b.drewN n) := ⟨h.os, h.tape, h.output, h.size, h.block⟩
def tiL (t : Ti) : List Value := [.int .i64 t.to, .int .i64 t.made, .bool t.is]
def tiV (t : Ti) : Value := .agg #[.int .i64 t.to, .int .i64 t.made, .bool t.is]
def KT : RK Ti := ⟨47, 3, 24, .agg #[.int .i64 0, .int .i64 0, .bool false], tiL⟩
theorem KT_ok : KT.Ok Try.prog :=
  ⟨fun _ => rfl, fun x u hu => by simp [KT, tiL] at hu; rcases hu with rfl | rfl | rfl <;> rfl, rfl, by decide, by decide, info_parts' (by kernel_rfl)⟩
theorem GS.atT {w : World} {p : Option Addr} {n cap k : Nat} {l : List Ti} (h : GS KT w (.slice p n cap) l) (hk : k < l.length) : ∃ X o, p = some ⟨X, o, none⟩ ∧ X < w.heap.size ∧ w.cell? ⟨X, o + k * 3, none⟩ = some (.int .i64 (tiA l k).to) ∧ w.cell? ⟨X, o + k * 3 + 1, none⟩ = some (.int .i64 (tiA l k).made) ∧ w.cell? ⟨X, o + k * 3 + 2, none⟩ = some (.bool (tiA l k).is) := by
  obtain ⟨X, o, h1, hX, h2⟩ := GS.at h hk
  rw [tiA_get hk]
  exact ⟨X, o, h1, hX, h2 0 _ rfl, h2 1 _ rfl, h2 2 _ rfl⟩
/-- A web's cells. -/
def webL (X : Wb) : List Value := X.runs.flatMap tiL ++ X.waits.flatMap tiL ++ [.int .i64 X.made]
/-- The block holds this web. -/
def WX (w : World) (b : Nat) (X : Wb) : Prop := w.heap[b]? = some (.cells (webL X).toArray 51)
theorem flat3 (l : List Ti) : (l.flatMap tiL).length = l.length * 3 := RK.flat_len (K := KT) KT_ok.len l
theorem flat3_set (x : Ti) : ∀ (l : List Ti) (c : Nat), (l.set c x).flatMap tiL = (((l.flatMap tiL).set (c * 3) (.int .i64 x.to)).set (c * 3 + 1) (.int .i64 x.made)).set (c * 3 + 2) (.bool x.is)
  | [], c => by simp
  | y :: l, 0 => rfl
  | y :: l, c + 1 => by
    rw [List.set_cons_succ, List.flatMap_cons, List.flatMap_cons, flat3_set x l c]
    have e : (c + 1) * 3 = c * 3 + 3 := by omega
    rw [e]
    rfl
theorem WX.lt {w : World} {b : Nat} {X : Wb} (h : WX w b X) : b < w.heap.size := lt_of_heap h
theorem WX.fz {w : World} {b : Nat} {X : Wb} (h : WX w b X) (o : Nat) : w.frozen? ⟨b, o, none⟩ = false := by
  have h' : w.heap[b]? = some (.cells (webL X).toArray 51) := h
  simp [World.frozen?, h']
theorem WX.far {w w' : World} {b : Nat} {X : Wb} (h : WX w b X) (k : w'.heap[b]? = w.heap[b]?) : WX w' b X := k.trans h
theorem WX.below {w w' : World} {b : Nat} {X : Wb} (h : WX w b X) (k : Below w.heap.size w w') : WX w' b X := h.far (k.block _ h.lt)
theorem WX.cell {w : World} {b : Nat} {X : Wb} (h : WX w b X) (o : Nat) : w.cell? ⟨b, o, none⟩ = (webL X)[o]? := by
  rw [cell_of_row _ _ _ _ _ _ h]; simp
theorem webL_run {X : Wb} (hr : X.runs.length = 256) {c : Nat} (hc : c < 256) (j : Nat) (hj : j < 3) : (webL X)[c * 3 + j]? = (tiL (X.r c))[j]? := by
  unfold webL
  rw [List.append_assoc, List.getElem?_append_left (by rw [flat3, hr]; omega)]
  have := RK.flat_at (K := KT) KT_ok.len X.runs c j (by omega) hj
  rw [show KT.W = 3 from rfl] at this
  refine this.trans ?_
  unfold Wb.r
  rw [tiA_get (by omega)]
  rfl
theorem webL_wait {X : Wb} (hr : X.runs.length = 256) (hw : X.waits.length = 128) {t : Nat} (ht : t < 128) (j : Nat) (hj : j < 3) : (webL X)[768 + t * 3 + j]? = (tiL (X.w t))[j]? := by
  unfold webL
  rw [List.append_assoc, List.getElem?_append_right (by rw [flat3, hr]; omega), flat3, hr, List.getElem?_append_left (by rw [flat3, hw]; omega), show 768 + t * 3 + j - 256 * 3 = t * 3 + j by omega]
  have := RK.flat_at (K := KT) KT_ok.len X.waits t j (by omega) hj
  rw [show KT.W = 3 from rfl] at this
  refine this.trans ?_
  unfold Wb.w
  rw [tiA_get (by omega)]
  rfl
theorem webL_made {X : Wb} (hr : X.runs.length = 256) (hw : X.waits.length = 128) : (webL X)[1152]? = some (.int .i64 X.made) := by
  unfold webL
  rw [List.getElem?_append_right (by rw [List.length_append, flat3, flat3, hr, hw]; omega)]
  rw [List.length_append, flat3, flat3, hr, hw]
  rfl
theorem WX.run {w : World} {b : Nat} {X : Wb} (h : WX w b X) (hi : WI X) {c : Nat} (hc : c < 256) : w.cell? ⟨b, c * 3, none⟩ = some (.int .i64 (X.r c).to) ∧ w.cell? ⟨b, c * 3 + 1, none⟩ = some (.int .i64 (X.r c).made) ∧ w.cell? ⟨b, c * 3 + 2, none⟩ = some (.bool (X.r c).is) := by
  refine ⟨?_, ?_, ?_⟩
  · rw [h.cell]; exact webL_run hi.lr hc 0 (by omega)
  · rw [h.cell]; exact webL_run hi.lr hc 1 (by omega)
  · rw [h.cell]; exact webL_run hi.lr hc 2 (by omega)
theorem WX.wait {w : World} {b : Nat} {X : Wb} (h : WX w b X) (hi : WI X) {t : Nat} (ht : t < 128) : w.cell? ⟨b, 768 + t * 3, none⟩ = some (.int .i64 (X.w t).to) ∧ w.cell? ⟨b, 768 + t * 3 + 1, none⟩ = some (.int .i64 (X.w t).made) ∧ w.cell? ⟨b, 768 + t * 3 + 2, none⟩ = some (.bool (X.w t).is) := by
  refine ⟨?_, ?_, ?_⟩
  · rw [h.cell]; exact webL_wait hi.lr hi.lw ht 0 (by omega)
  · rw [h.cell]; exact webL_wait hi.lr hi.lw ht 1 (by omega)
  · rw [h.cell]; exact webL_wait hi.lr hi.lw ht 2 (by omega)
theorem WX.gsr {w : World} {b : Nat} {X : Wb} (h : WX w b X) (hi : WI X) : GS KT w (.slice (some ⟨b, 0, none⟩) 256 256) X.runs := by
  refine Or.inr ⟨b, 0, 256, by rw [hi.lr], h.lt, by rw [hi.lr]; omega, fun k hk j u hu => ?_⟩
  rw [hi.lr] at hk
  have hj : j < 3 := by
    by_cases q : j < 3
    · exact q
    · rw [List.getElem?_eq_none (by rw [KT_ok.len]; show 3 ≤ j; omega)] at hu; cases hu
  rw [h.cell, show 0 + k * KT.W + j = k * 3 + j by show 0 + k * 3 + j = _; omega, webL_run hi.lr hk j hj]
  unfold Wb.r
  rw [tiA_get (by rw [hi.lr]; exact hk)]
  exact hu
theorem WX.gsw {w : World} {b : Nat} {X : Wb} (h : WX w b X) (hi : WI X) : GS KT w (.slice (some ⟨b, 768, none⟩) 128 128) X.waits := by
  refine Or.inr ⟨b, 768, 128, by rw [hi.lw], h.lt, by rw [hi.lw]; omega, fun k hk j u hu => ?_⟩
  rw [hi.lw] at hk
  have hj : j < 3 := by
    by_cases q : j < 3
    · exact q
    · rw [List.getElem?_eq_none (by rw [KT_ok.len]; show 3 ≤ j; omega)] at hu; cases hu
  rw [h.cell, show 768 + k * KT.W + j = 768 + k * 3 + j by rfl, webL_wait hi.lr hi.lw hk j hj]
  unfold Wb.w
  rw [tiA_get (by rw [hi.lw]; exact hk)]
  exact hu
theorem WX.setr {w : World} {b : Nat} {X : Wb} (h : WX w b X) (hi : WI X) {c : Nat} (hc : c < 256) (x : Ti) : WX (((w.setCell ⟨b, c * 3, none⟩ (.int .i64 x.to)).setCell ⟨b, c * 3 + 1, none⟩ (.int .i64 x.made)).setCell ⟨b, c * 3 + 2, none⟩ (.bool x.is)) b ⟨X.runs.set c x, X.waits, X.made⟩ := by
  have h3 := heap_setCell_same _ b (c * 3 + 2) _ _ (.bool x.is) (heap_setCell_same _ b (c * 3 + 1) _ _ (.int .i64 x.made) (heap_setCell_same w b (c * 3) _ _ (.int .i64 x.to) h))
  unfold WX
  rw [h3]
  have hl : (X.runs.flatMap tiL).length = 768 := by rw [flat3, hi.lr]
  have e : webL ⟨X.runs.set c x, X.waits, X.made⟩ = (((webL X).set (c * 3) (.int .i64 x.to)).set (c * 3 + 1) (.int .i64 x.made)).set (c * 3 + 2) (.bool x.is) := by
    unfold webL
    simp only
    rw [flat3_set, List.append_assoc, List.append_assoc, List.set_append_left _ _ (by omega), List.set_append_left _ _ (by rw [List.length_set]; omega), List.set_append_left _ _ (by rw [List.length_set, List.length_set]; omega)]
  rw [e]
  simp [List.setIfInBounds_toArray]
theorem WX.setw {w : World} {b : Nat} {X : Wb} (h : WX w b X) (hi : WI X) {t : Nat} (ht : t < 128) (x : Ti) : WX (((w.setCell ⟨b, 768 + t * 3, none⟩ (.int .i64 x.to)).setCell ⟨b, 768 + t * 3 + 1, none⟩ (.int .i64 x.made)).setCell ⟨b, 768 + t * 3 + 2, none⟩ (.bool x.is)) b ⟨X.runs, X.waits.set t x, X.made⟩ := by
  have h3 := heap_setCell_same _ b (768 + t * 3 + 2) _ _ (.bool x.is) (heap_setCell_same _ b (768 + t * 3 + 1) _ _ (.int .i64 x.made) (heap_setCell_same w b (768 + t * 3) _ _ (.int .i64 x.to) h))
  unfold WX
  rw [h3]
  have hl : (X.runs.flatMap tiL).length = 768 := by rw [flat3, hi.lr]
  have hl2 : (X.waits.flatMap tiL).length = 384 := by rw [flat3, hi.lw]
  have e : webL ⟨X.runs, X.waits.set t x, X.made⟩ = (((webL X).set (768 + t * 3) (.int .i64 x.to)).set (768 + t * 3 + 1) (.int .i64 x.made)).set (768 + t * 3 + 2) (.bool x.is) := by
    unfold webL
    simp only
    rw [flat3_set, List.append_assoc, List.append_assoc]
    rw [List.set_append_right _ _ (by omega), List.set_append_right _ _ (by omega), List.set_append_right _ _ (by omega), hl, show 768 + t * 3 - 768 = t * 3 by omega, show 768 + t * 3 + 1 - 768 = t * 3 + 1 by omega, show 768 + t * 3 + 2 - 768 = t * 3 + 2 by omega]
    rw [List.set_append_left _ _ (by omega), List.set_append_left _ _ (by rw [List.length_set]; omega), List.set_append_left _ _ (by rw [List.length_set, List.length_set]; omega)]
  rw [e]
  simp [List.setIfInBounds_toArray]
theorem WX.setm {w : World} {b : Nat} {X : Wb} (h : WX w b X) (hi : WI X) (m : Nat) : WX (w.setCell ⟨b, 1152, none⟩ (.int .i64 m)) b ⟨X.runs, X.waits, m⟩ := by
  have h3 := heap_setCell_same w b 1152 _ _ (.int .i64 m) h
  unfold WX
  rw [h3]
  have e : webL ⟨X.runs, X.waits, m⟩ = (webL X).set 1152 (.int .i64 m) := by
    unfold webL
    simp only
    rw [List.set_append_right _ _ (by rw [List.length_append, flat3, flat3, hi.lr, hi.lw]; omega), List.length_append, flat3, flat3, hi.lr, hi.lw]
    rfl
  rw [e]
  simp [List.setIfInBounds_toArray]
end Go.Proofs.Ytkhcinpcoabphaa
