/- Graph: rows of truths. -/
import Derived.Test.YtghkhceplpjegaaYg7
import Derived.Test.YtghkhceplpjegaaYg3
import Derived.Test.YtghkhceplpjegaaYe9
namespace Go.Proofs.Ytghkhceplpjegaa
open Go.RowKit

theorem rset (N : Nat) (F : Nat → Int) (i : Nat) (y : Int) : ((List.range N).map F).set i y = (List.range N).map (upF F i y) := by
  apply List.ext_getElem
  · simp
  · intro k h1 h2
    rw [List.getElem_set]
    by_cases e : i = k
    · subst e; simp [upF]
    · rw [if_neg e]
      have : ¬ k = i := fun q => e q.symm
      simp [upF, this]
/-- A row of numbers, one a node. -/
def LFR (w : World) (base X N : Nat) (F : Nat → Int) : Prop := OwnG KI w base (.slice (some ⟨X, 0, none⟩) N N) ((List.range N).map F)
theorem LFR.set {w : World} {base X N : Nat} {F : Nat → Int} (h : LFR w base X N F) (i : Nat) (y : Int) : LFR (w.setCell ⟨X, i, none⟩ (.int .i64 y)) base X N (upF F i y) := by
  have := OwnG.set1 rfl KI_ok.len h (k := i) y (.int .i64 y) rfl
  rw [rset] at this
  exact this
theorem LFR.at {w : World} {base X N : Nat} {F : Nat → Int} (h : LFR w base X N F) {i : Nat} (hi : i < N) : w.cell? ⟨X, i, none⟩ = some (.int .i64 (F i)) ∧ w.frozen? ⟨X, i, none⟩ = false := by
  refine ⟨?_, own_frozen h i⟩
  obtain ⟨Y, o, e, hc⟩ := far_at (OwnG.gs KI_ok.len h) hi
  injection e with e
  injection e with e1 e2 _
  subst e1 e2
  rw [Nat.zero_add] at hc
  exact hc
theorem LFR.far {w w' : World} {base X N : Nat} {F : Nat → Int} (h : LFR w base X N F) (k : w'.heap[X]? = w.heap[X]?) : LFR w' base X N F := OwnG.far h fun g hg => by
  injection hg with hg
  have hg : X = g := hg
  rw [← hg]; exact k
theorem LFR.lt {w : World} {base X N : Nat} {F : Nat → Int} (h : LFR w base X N F) : base ≤ X ∧ X < w.heap.size := OwnG.lt h (g := X) rfl
theorem LFR.eq {w : World} {base X N : Nat} {F G : Nat → Int} (h : LFR w base X N F) (k : ∀ x, F x = G x) : LFR w base X N G := by rw [← (funext k : F = G)]; exact h
theorem LFR.zero {w : World} {base X N : Nat} (h : OwnG KI w base (.slice (some ⟨X, 0, none⟩) N N) (List.replicate N 0)) : LFR w base X N (fun _ => 0) := by
  unfold LFR
  have : (List.range N).map (fun _ => (0 : Int)) = List.replicate N 0 := by simp [List.map_const']
  rw [this]
  exact h
/-- While the numbers are counted. -/
structure CT (w : World) (X N : Nat) (wr : World) (F : Nat → Int) : Prop where
  bl : Below w.heap.size w wr
  lf : LFR wr w.heap.size X N F
theorem CT.inc {w : World} {X N : Nat} {wr : World} {E : List (Nat × Nat)} {k j : Nat} (h : CT w X N wr (lfS (nx N E) k j)) (hj : j < (nx N E k).length) : CT w X N (wr.setCell ⟨X, (nx N E k)[j], none⟩ (.int .i64 (lfS (nx N E) k j (nx N E k)[j] + 1))) (lfS (nx N E) k (j + 1)) :=
  ⟨h.bl.setCell (p := ⟨X, _, none⟩) h.lf.lt.1 _, (h.lf.set _ _).eq fun x => by
    rw [lfS_succ hj]
    unfold upF
    split
    · rename_i e; rw [e]
    · rfl⟩
/-- While nodes are taken: the numbers, the heap in its box, the order. -/
structure OS (w : World) (N X B : Nat) (wr : World) (F : Nat → Int) (v : Value) (d : Array Nat) (u : Value) (D : List Nat) : Prop where
  bl : Below w.heap.size w wr
  lf : LFR wr w.heap.size X N F
  hp : Hq.RB wr w.heap.size B v d
  hh : Heap Hq.nlt d.size d
  od : OwnG KI wr w.heap.size u (nI D)
  bB : w.heap.size ≤ B
  a1 : v.ownBlock ≠ some X
  a2 : u.ownBlock ≠ some X
  a3 : ∀ g, v.ownBlock = some g → u.ownBlock ≠ some g
theorem OS.nX {w : World} {N X B : Nat} {wr : World} {F : Nat → Int} {v : Value} {d : Array Nat} {u : Value} {D : List Nat} (h : OS w N X B wr F v d u D) : X ≠ B := fun e => OwnG.notat h.lf h.hp.box (by decide) (by rw [← e]; rfl)
theorem OS.nu {w : World} {N X B : Nat} {wr : World} {F : Nat → Int} {v : Value} {d : Array Nat} {u : Value} {D : List Nat} (h : OS w N X B wr F v d u D) : u.ownBlock ≠ some B := h.od.notat h.hp.box (by decide)
theorem OS.set {w : World} {N X B : Nat} {wr : World} {F : Nat → Int} {v : Value} {d : Array Nat} {u : Value} {D : List Nat} (h : OS w N X B wr F v d u D) (i : Nat) (y : Int) : OS w N X B (wr.setCell ⟨X, i, none⟩ (.int .i64 y)) (upF F i y) v d u D :=
  ⟨h.bl.setCell (p := ⟨X, _, none⟩) h.lf.lt.1 _, h.lf.set i y, ⟨by rw [set_far (fun e => h.nX e.symm)]; exact h.hp.box, h.hp.row.far fun g hg => set_far (fun e => h.a1 (by rw [← e]; exact hg))⟩, h.hh, h.od.far fun g hg => set_far (fun e => h.a2 (by rw [← e]; exact hg)), h.bB, h.a1, h.a2, h.a3⟩
theorem OS.eq {w : World} {N X B : Nat} {wr : World} {F G : Nat → Int} {v : Value} {d : Array Nat} {u : Value} {D : List Nat} (h : OS w N X B wr F v d u D) (k : ∀ x, F x = G x) : OS w N X B wr G v d u D := by rw [← (funext k : F = G)]; exact h
theorem OS.drew {w : World} {N X B : Nat} {wr : World} {F : Nat → Int} {v : Value} {d : Array Nat} {u : Value} {D : List Nat} (h : OS w N X B wr F v d u D) (n : Nat) : OS w N X B (wr.drewN n) F v d u D :=
  ⟨h.bl.trans ((drew_below wr n).mono h.bl.size), h.lf.far rfl, ⟨h.hp.box, h.hp.row.far fun _ _ => rfl⟩, h.hh, h.od.far fun _ _ => rfl, h.bB, h.a1, h.a2, h.a3⟩
theorem OS.push {w : World} {N X B : Nat} {wr : World} {F : Nat → Int} {v : Value} {d : Array Nat} {u : Value} {D : List Nat} (h : OS w N X B wr F v d u D) (hl : d.size ≤ 100000) (x : Nat) :
    Calls Try.prog 59 #[.iface 80 (.pointer (some ⟨B, 0, none⟩)), .iface 3 (.int .i64 x)] wr fun e w' => e = .returned (.tuple #[]) ∧ ∃ v' d', OS w N X B w' F v' d' u D ∧ d'.toList.Perm (x :: d.toList) ∧ d'.size = d.size + 1 := by
  refine (Hq.heapPush_any wr w.heap.size B v d h.hp h.bl.size hl h.hh x).mono ?_
  rintro e w' ⟨rfl, g, cap, d', r1, r2, r3, r4, r5, r6⟩
  have kb : ∀ k, k < wr.heap.size → k ≠ B → v.ownBlock ≠ some k → w'.heap[k]? = wr.heap[k]? := fun k hk h1 h2 => r6.block k hk (fun e => e.elim h1 h2)
  refine ⟨rfl, _, d', ⟨h.bl.trans (r6.below h.bl.size fun x hx => ?_), h.lf.far (kb X h.lf.lt.2 h.nX h.a1), r1, r3, h.od.far fun g hg => kb g (h.od.lt hg).2 (fun e => h.nu (by rw [← e]; exact hg)) (fun e => h.a3 g e hg), h.bB, fun e => ?_, h.a2, fun g' hg' e => ?_⟩, r4, r2⟩
  · rcases hx with rfl | hx
    · exact h.bB
    · exact (h.hp.row.lt hx).1
  · injection e with e
    have e : g = X := e
    rcases r5 with q | q
    · exact h.a1 (by rw [q, e])
    · have := h.lf.lt.2; omega
  · injection hg' with hg'
    have hg' : g = g' := hg'
    subst hg'
    rcases r5 with q | q
    · exact h.a3 g q e
    · have := (h.od.lt e).2; omega
theorem OS.pop {w : World} {N X B : Nat} {wr : World} {F : Nat → Int} {v : Value} {d : Array Nat} {u : Value} {D : List Nat} (h : OS w N X B wr F v d u D) (hl : d.size ≤ 100000) {n : Nat} (hn : d.size = n + 1) :
    Calls Try.prog 61 #[.iface 80 (.pointer (some ⟨B, 0, none⟩))] wr fun e w' => ∃ x v' d', e = .returned (.iface 3 (.int .i64 (x : Nat))) ∧ OS w N X B w' F v' d' u D ∧ d.toList.Perm (x :: d'.toList) ∧ (∀ y ∈ d'.toList, x ≤ y) ∧ d'.size = n := by
  have hnn : v.ownBlock ≠ none := by
    intro e2
    rcases h.hp.row.2 with ⟨_, e3⟩ | ⟨g, cap, cur, e3, _⟩
    · rw [Hq.nI_size] at e3; omega
    · rw [e3] at e2; cases e2
  obtain ⟨Y, cap, e3, hcap⟩ := h.hp.row.place hnn
  rw [Hq.nI_size] at e3
  subst e3
  refine (Hq.heapPop_any wr w.heap.size B Y cap d h.hp hl h.hh n hn).mono ?_
  rintro e w' ⟨x, d', rfl, r1, r2, r3, r4, r5, r6⟩
  have kb : ∀ k, k < wr.heap.size → k ≠ B → k ≠ Y → w'.heap[k]? = wr.heap[k]? := fun k hk h1 h2 => r6.block k hk (fun e => e.elim h1 h2)
  have hXY : X ≠ Y := fun e => h.a1 (by rw [e]; rfl)
  refine ⟨x, _, d', rfl, ⟨h.bl.trans (r6.below h.bl.size fun x hx => ?_), h.lf.far (kb X h.lf.lt.2 h.nX hXY), r1, r3, h.od.far fun g hg => kb g (h.od.lt hg).2 (fun e => h.nu (by rw [← e]; exact hg)) (fun e => h.a3 g (by rw [e]; rfl) hg), h.bB, fun e => ?_, h.a2, fun g' hg' e => ?_⟩, r4, r5, r2⟩
  · rcases hx with rfl | rfl
    · exact h.bB
    · exact (h.hp.row.lt rfl).1
  · injection e with e
    exact hXY e.symm
  · exact h.a3 g' hg' e
/-- The order has one more, appended in a world with one more block. -/
theorem OS.app {w : World} {N X B : Nat} {wr : World} {F : Nat → Int} {v : Value} {d : Array Nat} {u : Value} {D : List Nat} (h : OS w N X B wr F v d u D) {w1 w' : World} {x g cap : Nat} (hw : Below wr.heap.size wr w1) (ho : OwnG KI w' w.heap.size (.slice (some ⟨g, 0, none⟩) ((nI D).length + 1) cap) (nI D ++ [(x : Int)])) (hb : Below w.heap.size w1 w') (hk : ∀ k, k < w1.heap.size → some k ≠ u.ownBlock → w'.heap[k]? = w1.heap[k]?) (hg : u.ownBlock = some g ∨ w1.heap.size ≤ g) : OS w N X B w' F v d (.slice (some ⟨g, 0, none⟩) ((nI D).length + 1) cap) (D ++ [x]) := by
  have kb : ∀ k, k < wr.heap.size → u.ownBlock ≠ some k → w'.heap[k]? = wr.heap[k]? := fun k hk1 h1 => (hk k (Nat.lt_of_lt_of_le hk1 hw.size) (fun e => h1 e.symm)).trans (hw.block k hk1)
  refine ⟨(h.bl.trans (hw.mono h.bl.size)).trans hb, h.lf.far (kb X h.lf.lt.2 h.a2), ⟨by rw [kb B h.hp.lt h.nu]; exact h.hp.box, h.hp.row.far fun g hg => kb g (h.hp.row.lt hg).2 (h.a3 g hg)⟩, h.hh, by rw [nI_app]; exact ho, h.bB, h.a1, fun e => ?_, fun g' hg' e => ?_⟩
  · injection e with e
    have e : g = X := e
    rcases hg with q | q
    · exact h.a2 (by rw [q, e])
    · have := h.lf.lt.2; have := hw.size; omega
  · injection e with e
    have e : g = g' := e
    subst e
    rcases hg with q | q
    · exact h.a3 g hg' q
    · have := (h.hp.row.lt hg').2; have := hw.size; omega
theorem OS.start {w : World} {N X : Nat} {wr : World} {F : Nat → Int} (h : CT w X N wr F) : OS w N X wr.heap.size (wr.alloc (.cells #[.slice none 0 0] 78)) F (.slice none 0 0) #[] (.slice none 0 0) [] :=
  ⟨bl3 h.bl (bal _ _), h.lf.far (Below.heap_alloc _ _ _ h.lf.lt.2), ⟨heap_alloc_new _ _, OwnG.nil KI _ _⟩, fun k h1 h2 => by simp at h2, OwnG.nil KI _ _, h.bl.size, (fun e => by cases e), (fun e => by cases e), (fun g e => by cases e)⟩
theorem lenH_any (w : World) (p : Option Addr) (n cap : Nat) : Calls Try.prog 60 #[.slice p n cap] w fun e w' => e = .returned (.int .i64 n) ∧ w' = w := Hq.len_any w p n cap
end Go.Proofs.Ytghkhceplpjegaa
namespace Go.Proofs.Ytghkhceplpjegaa
open Go.RowKit

/-- A row of truths changed at one place. -/
def upB (F : Nat → Bool) (y : Nat) (d : Bool) : Nat → Bool := fun x => if x = y then d else F x
theorem bset (N : Nat) (S : Nat → Bool) (i : Nat) (d : Bool) : ((List.range N).map S).set i d = (List.range N).map (upB S i d) := by
  apply List.ext_getElem
  · simp
  · intro k h1 h2
    rw [List.getElem_set]
    by_cases e : i = k
    · subst e; simp [upB]
    · rw [if_neg e]
      have : ¬ k = i := fun q => e q.symm
      simp [upB, this]
/-- A row of truths, one a node. -/
def LFB (w : World) (base X N : Nat) (S : Nat → Bool) : Prop := OwnG KB w base (.slice (some ⟨X, 0, none⟩) N N) ((List.range N).map S)
theorem LFB.set {w : World} {base X N : Nat} {S : Nat → Bool} (h : LFB w base X N S) (i : Nat) (d : Bool) : LFB (w.setCell ⟨X, i, none⟩ (.bool d)) base X N (upB S i d) := by
  have := OwnG.set1 rfl KB_ok.len h (k := i) d (.bool d) rfl
  rw [bset] at this
  exact this
theorem LFB.at {w : World} {base X N : Nat} {S : Nat → Bool} (h : LFB w base X N S) {i : Nat} (hi : i < N) : w.cell? ⟨X, i, none⟩ = some (.bool (S i)) ∧ w.frozen? ⟨X, i, none⟩ = false := by
  refine ⟨?_, own_frozen h i⟩
  obtain ⟨Y, o, e, hc⟩ := (h.gs KB_ok.len).atB (k := i) (by simpa using hi)
  injection e with e
  injection e with e1 e2 _
  subst e1 e2
  rw [Nat.zero_add] at hc
  rw [hc]
  simp
theorem LFB.far {w w' : World} {base X N : Nat} {S : Nat → Bool} (h : LFB w base X N S) (k : w'.heap[X]? = w.heap[X]?) : LFB w' base X N S := OwnG.far h fun g hg => by
  injection hg with hg
  have hg : X = g := hg
  rw [← hg]; exact k
theorem LFB.lt {w : World} {base X N : Nat} {S : Nat → Bool} (h : LFB w base X N S) : base ≤ X ∧ X < w.heap.size := OwnG.lt h (g := X) rfl
theorem LFB.eq {w : World} {base X N : Nat} {S T : Nat → Bool} (h : LFB w base X N S) (k : ∀ x, S x = T x) : LFB w base X N T := by rw [← (funext k : S = T)]; exact h
theorem LFB.none {w : World} {base X N : Nat} (h : OwnG KB w base (.slice (some ⟨X, 0, none⟩) N N) (List.replicate N false)) : LFB w base X N (fun _ => false) := by
  unfold LFB
  have : (List.range N).map (fun _ => false) = List.replicate N false := by simp [List.map_const']
  rw [this]
  exact h
theorem LFR.low {w : World} {base b2 X N : Nat} {F : Nat → Int} (h : LFR w base X N F) (k : b2 ≤ base) : LFR w b2 X N F := OwnG.low h k
theorem LFB.low {w : World} {base b2 X N : Nat} {S : Nat → Bool} (h : LFB w base X N S) (k : b2 ≤ base) : LFB w b2 X N S := OwnG.low h k
theorem rb_ne {w : World} {b1 b2 X Y N M : Nat} {F : Nat → Int} {S : Nat → Bool} (h : LFR w b1 X N F) (k : LFB w b2 Y M S) : X ≠ Y := fun e => by
  obtain ⟨c, e2⟩ := OwnG.ty k (g := Y) rfl
  exact OwnG.notat h (B := Y) e2 (by decide) (by rw [← e]; rfl)
end Go.Proofs.Ytghkhceplpjegaa
