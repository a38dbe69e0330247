/- A range over a function whose iterator hands over, round by round, what it has laid in that very round: what is handed over stands in a relation to the round's world. -/
import Derived.RangeFuncNested
import Derived.RangeFuncBound
import Derived.RangeFuncCalls
import Derived.RangeFuncLeaves
import Derived.RangeFuncWrites
import Derived.Shelf.Abstract
import Derived.Shelf.RegionOpen
import Derived.WalkKit
import Derived.OwnWalkIn
import Derived.TacticsInMore
import Derived.LoopNIn
import Derived.LoopIn
namespace Go.Proofs.Ytofdfofpdfaimaa
open Go.RowKit Go.Shelf

/-- The k-th thing that is handed over stands in R k to the world in which yield is called; the round keeps Kp; the iterator adds blocks alone. -/
def SeqRel (F : Fence) (n : Nat) (P : Program) (gf : Nat) (lb : Array Value) (N : Nat) (R : Nat → Array Value → World → Prop) (Kp : World → World → Prop) (w0 : World) : Prop :=
  ∀ (l : Nat) (J Jx : Nat → World → Prop) (W : World), Kp w0 W → (∀ k A B, J k A → Below A.heap.size A B → J k B) →
    (∀ k x W1, J k W1 → k < N → R k x W1 → YieldAt F (n - 1) P l x W1 fun e W' => (e = .returned (.bool true) ∧ J (k + 1) W' ∧ Kp W1 W') ∨ (e = .returned (.bool false) ∧ Jx (k + 1) W')) →
    J 0 W → CallsIn F n P gf (#[.func (.yield l) #[] #[]] ++ lb) W fun e W' => (∃ v, e = .returned v) ∧ (J N W' ∨ ∃ k, k ≤ N ∧ Jx k W')
/-- How a round may end. -/
def relPost (B : Nat) (Kp : World → World → Prop) (I : Nat → World → Prop) (Ix : Code → Nat → World → Prop) (k : Nat) (W : World) : Exit → Act → World → Prop
  | .normal, _, W' => KeepsFrom B W W' ∧ Kp W W' ∧ I k W'
  | .ret, _, W' => KeepsFrom B W W' ∧ Ix .ret k W'
  | .exit id, _, W' => KeepsFrom B W W' ∧ Ix (.exit id) k W'
  | .goto t, _, W' => KeepsFrom B W W' ∧ Ix (.goto t) k W'
  | .panic _, _, _ => False
  | .outgrown, _, _ => False
theorem below_same {W W' : World} (h : Below W.heap.size W W') {k : Nat} {o : Obj} (hk : W.heap[k]? = some o) : W'.heap[k]? = some o := (h.block k (Array.getElem?_eq_some_iff.1 hk).1).trans hk
/-- The range itself. -/
theorem wpIn_range_rel {F : Fence} {n : Nat} {P : Program} {g : Operand} {ps : Array Tmp} {assign body : Code} {Q : Exit → Act → World → Prop} {a : Act} {w : World}
    (hro : F.round = none) (h1 : 1 ≤ n) {gf : Nat} {lb : Array Value} (hg : a.eval g = .func (.func gf) #[] lb) (hFg : F.fn gf) (eg : ∀ args w, (callFunc gf args).run P w = .ok (.enter gf args) w)
    {N : Nat} {R : Nat → Array Value → World → Prop} {Kp : World → World → Prop} {w0 : World} (hseq : SeqRel F (n - 1) P gf lb N R Kp w0)
    (hKt : ∀ {A B C : World}, Kp A B → Kp B C → Kp A C) (hKb : ∀ {A B : World}, Below A.heap.size A B → Kp A B) (hKl : ∀ (W : World) (l : Nat) (o : Obj), w.heap.size ≤ l → Kp W (W.putObj l o)) (hb0 : Kp w0 w)
    (hps : ∀ k x W, R k x W → x.size = ps.size)
    (I : Nat → World → Prop) (Ix : Code → Nat → World → Prop)
    (hIb : ∀ k A B, I k A → Below A.heap.size A B → I k B)
    (hIl : ∀ k A l r r', I k A → w.heap.size ≤ l → A.heap[l]? = some (.loop r) → I k (A.putObj l (.loop r')))
    (hIxl : ∀ c k A l r r', Ix c k A → w.heap.size ≤ l → A.heap[l]? = some (.loop r) → Ix c k (A.putObj l (.loop r')))
    (h0 : I 0 w) (Ax : Nat → Array Value → Act → World → Prop)
    (hAl : ∀ k x a' A l r r', Ax k x a' A → w.heap.size ≤ l → A.heap[l]? = some (.loop r) → Ax k x a' (A.putObj l (.loop r')))
    (hassign : ∀ (l k : Nat) (x : Array Value) (W : World) (K : Act → World → Prop), I k W → R k x W → (∀ a' W', Below W.heap.size W W' → Ax k x a' W' → K a' W') →
      assign.wpIn (F.inRound l) (n - 1 - 1) P (Exit.then K (fun _ _ _ => False)) { tmps := (ps.zip x).foldl (fun t (p, v) => t.setIfInBounds p v) a.tmps, defers := [] } W)
    (hbody : ∀ (l k : Nat) (x : Array Value) (a' : Act) (W : World), w.heap.size ≤ l → (∃ r, W.heap[l]? = some (.loop r)) → I k W → Ax k x a' W → k < N → body.wpIn (F.inRound l) (n - 1 - 1) P (relPost w.heap.size Kp I Ix (k + 1) W) a' W)
    (hdone : ∀ (D : Nat) (W : World), w.heap.size ≤ D → I N W → W.heap[D]? = some (.deferred (some [])) → Q .normal { a with defers := { target := .collected D, args := #[] } :: a.defers } W)
    (hstop : ∀ (D : Nat) (c : Code) (k : Nat) (W : World), w.heap.size ≤ D → Ix c k W → W.heap[D]? = some (.deferred (some [])) → c.wpIn F n P Q { a with defers := { target := .collected D, args := #[] } :: a.defers } W) :
    (Code.rangeFunc g ps assign body).wpIn F n P Q a w := by
  refine wpIn_rangeFunc fun fn hfn => ?_
  rw [hro]
  -- the loop's record, by its state and what is pending; it lies behind the block for deferred calls
  let rec0 : LoopState → Option Code → Loop := fun st pe => { state := st, pending := pe, fn, tmps := a.tmps, params := ps, assign, body, defers := w.heap.size }
  obtain ⟨rec, hrec⟩ : ∃ rec, rec = rec0 := ⟨_, rfl⟩
  obtain ⟨l, hl⟩ : ∃ l, l = w.heap.size + 1 := ⟨_, rfl⟩
  obtain ⟨V, hV⟩ : ∃ V, V = (w.alloc (.deferred (some []))).alloc (.loop (rec .ready none)) := ⟨_, rfl⟩
  have lv : w.heap.size ≤ l := by omega
  have bV : Below w.heap.size w V := by rw [hV]; exact ((Below.refl _ w).alloc (Nat.le_refl _) _).alloc (by simp) _
  have eL : V.heap[l]? = some (.loop (rec .ready none)) := by
    have h := World.alloc_heap_new (w.alloc (.deferred (some []))) (.loop (rec .ready none))
    rw [World.size_alloc] at h
    rw [hV, hl]; exact h
  have eD : V.heap[w.heap.size]? = some (.deferred (some [])) := by
    rw [hV]; exact (Below.heap_alloc _ _ _ (by simp)).trans (World.alloc_heap_new w _)
  refine ⟨l, [{ target := .collected w.heap.size, args := #[] }], V, { target := .fn (.func gf) lb, args := #[.func (.yield l) #[] #[]] }, V, gf, #[.func (.yield l) #[] #[]] ++ lb, V, ?_, ?_, ?_, ?_, fun _ => h1, ?_⟩
  · rw [hV, hl, hrec]; exact run_enterLoop_outer _ _ _ _ _
  · simp only [resolve, hg]
    simp [go_sem]
  · intro f hf
    simp [Target.leads] at hf
    subst hf; exact hFg
  · simp [invoke, go_sem, eg]
  have still : ∀ {A B : World}, A.heap[l]? = some (.loop (rec .ready none)) → A.heap[w.heap.size]? = some (.deferred (some [])) → Below A.heap.size A B → B.heap[l]? = some (.loop (rec .ready none)) ∧ B.heap[w.heap.size]? = some (.deferred (some [])) := fun h1 h2 b => ⟨below_same b h1, below_same b h2⟩
  refine (hseq l (fun k A => I k A ∧ A.heap[l]? = some (.loop (rec .ready none)) ∧ A.heap[w.heap.size]? = some (.deferred (some [])))
    (fun k A => ∃ c, Ix c k A ∧ A.heap[l]? = some (.loop (rec .done (some c))) ∧ A.heap[w.heap.size]? = some (.deferred (some []))) V (hKt hb0 (hKb bV))
    (fun k A B h b => ⟨hIb k A B h.1 b, still h.2.1 h.2.2 b⟩) ?_ ⟨hIb 0 w V h0 bV, eL, eD⟩).mono ?_
  · rintro k x A ⟨hi, hA, hD⟩ hk hR
    have hy := run_yield (P := P) (args := x) hA (by rw [hrec]; exact hps k x A hR)
    rw [hrec] at hy
    refine ⟨fn, _, assign, body, hy, roundIn_of_wpIn hfn (hassign l k x A _ hi hR fun a' B hAB hax => ?_)⟩
    clear hy
    have hiB := hIb k A B hi hAB
    obtain ⟨hB, hDB⟩ := still hA hD hAB
    have zB : l < B.heap.size := (Array.getElem?_eq_some_iff.1 hB).1
    refine ⟨_, run_beginRound hB (by rw [hrec]), ?_⟩
    obtain ⟨C, hC⟩ : ∃ C, C = B.putObj l (.loop { rec .ready none with state := .busy }) := ⟨_, rfl⟩
    have cL : C.heap[l]? = some (.loop { rec .ready none with state := .busy }) := by rw [hC]; exact World.putObj_heap_same zB
    have cD : C.heap[w.heap.size]? = some (.deferred (some [])) := by rw [hC]; exact (World.putObj_heap_other (by omega)).trans hDB
    have kC : Kp A C := hKt (hKb hAB) (by rw [hC]; exact hKl _ _ _ lv)
    rw [← hC]
    refine wpIn_mono (hbody l k x a' C lv ⟨_, cL⟩ (by rw [hC]; exact hIl k B l _ _ hiB lv hB) (by rw [hC]; exact hAl k x a' B l _ _ hax lv hB) hk) ?_
    have fin : ∀ (jump : Option Code) (E : World), KeepsFrom w.heap.size C E →
        (Instr.endRound l jump).run P E = .ok (.bool jump.isNone) (E.putObj l (.loop (rec (if jump.isNone then .ready else .done) jump))) ∧ E.heap[l]? = some (.loop { rec .ready none with state := .busy }) ∧
        (E.putObj l (.loop (rec (if jump.isNone then .ready else .done) jump))).heap[l]? = some (.loop (rec (if jump.isNone then .ready else .done) jump)) ∧
        (E.putObj l (.loop (rec (if jump.isNone then .ready else .done) jump))).heap[w.heap.size]? = some (.deferred (some [])) := fun jump E hk3 => by
      have e1 := hk3.same _ _ lv cL rfl
      have e2 := run_endRound (P := P) jump e1
      rw [hrec] at e2 ⊢
      rw [hrec] at e1
      exact ⟨e2, e1, World.putObj_heap_same (Array.getElem?_eq_some_iff.1 e1).1, (World.putObj_heap_other (by omega)).trans (hk3.same _ _ (Nat.le_refl _) cD rfl)⟩
    have left : ∀ (c : Code) (E : World), KeepsFrom w.heap.size C E → Ix c (k + 1) E → ∃ v w', (Instr.endRound l (some c)).run P E = .ok v w' ∧
        ((Ending.returned v = .returned (.bool true) ∧ (I (k + 1) w' ∧ w'.heap[l]? = some (.loop (rec .ready none)) ∧ w'.heap[w.heap.size]? = some (.deferred (some []))) ∧ Kp A w') ∨
         (Ending.returned v = .returned (.bool false) ∧ ∃ c, Ix c (k + 1) w' ∧ w'.heap[l]? = some (.loop (rec .done (some c))) ∧ w'.heap[w.heap.size]? = some (.deferred (some [])))) := fun c E hk3 hx => by
      obtain ⟨e1, e2, e3, e4⟩ := fin (some c) E hk3
      exact ⟨_, _, e1, .inr ⟨rfl, c, hIxl _ _ _ l _ _ hx lv e2, e3, e4⟩⟩
    rintro e a3 E hp
    cases e with
    | normal =>
      obtain ⟨hk3, hkp, hi3⟩ := hp
      obtain ⟨e1, e2, e3, e4⟩ := fin none E hk3
      exact ⟨_, _, e1, .inl ⟨rfl, ⟨hIl _ _ l _ _ hi3 lv e2, e3, e4⟩, hKt kC (hKt hkp (hKl _ _ _ lv))⟩⟩
    | ret => exact left .ret E hp.1 hp.2
    | exit id => exact left (.exit id) E hp.1 hp.2
    | goto t => exact left (.goto t) E hp.1 hp.2
    | panic ch => exact hp.elim
    | outgrown => exact hp.elim
  · rintro e E ⟨⟨v, rfl⟩, ⟨hi, hE, hD⟩ | ⟨k, _, c, hx, hE, hD⟩⟩
    · have e1 := run_endLoop (P := P) hE (by rw [hrec]; simp [rec0])
      rw [hrec] at e1
      refine ⟨none, _, e1, hdone _ _ (Nat.le_refl _) (hIl _ _ l _ _ hi lv hE) ((World.putObj_heap_other (by omega)).trans hD)⟩
    · have e1 := run_endLoop (P := P) hE (by rw [hrec]; simp [rec0])
      rw [hrec] at e1
      exact ⟨some c, _, e1, hstop _ c k _ (Nat.le_refl _) (hIxl _ _ _ l _ _ hx lv hE) ((World.putObj_heap_other (by omega)).trans hD)⟩
end Go.Proofs.Ytofdfofpdfaimaa
