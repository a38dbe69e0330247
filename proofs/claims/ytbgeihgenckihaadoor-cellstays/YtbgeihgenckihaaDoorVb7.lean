/- Values, the reference: begins: its three rows. -/
import Derived.Test.YtbgeihgenckihaaDoorVb3
import Derived.Test.YtbgeihgenckihaaDoorVb6
namespace Go.Proofs.YtbgeihgenckihaaDoor
open Go.RowKit

theorem own_keep {w w' : World} {base g n c m gs cs : Nat} {l : List Int} (h : OwnG KI w base (.slice (some ⟨g, 0, none⟩) n c) l) (hk : ∀ k, k < w.heap.size → some k ≠ (Value.slice (some ⟨gs, 0, none⟩) m cs).ownBlock → w'.heap[k]? = w.heap[k]?) (hne : g ≠ gs) : OwnG KI w' base (.slice (some ⟨g, 0, none⟩) n c) l :=
  h.far fun x hx => hk x (h.lt hx).2 (fun e => by
    have h1 : x = g := by simpa [Value.ownBlock] using hx.symm
    have h2 : x = gs := by simpa [Value.ownBlock] using e
    omega)
theorem own_ne {w : World} {base g n c m gs cs g2 : Nat} {l : List Int} (h : OwnG KI w base (.slice (some ⟨g, 0, none⟩) n c) l) (hg : (Value.slice (some ⟨gs, 0, none⟩) m cs).ownBlock = some g2 ∨ w.heap.size ≤ g2) (hne : g ≠ gs) : g ≠ g2 := by
  have h1 := (h.lt (g := g) rfl).2
  rcases hg with e | e
  · have : gs = g2 := by simpa [Value.ownBlock] using e
    omega
  · omega
/-- The three rows: where each whole begins; the stack's beginnings; its depths. -/
structure R3 (w wk : World) (gf cf gs cs gd cd : Nat) (F : List Int) (S : List Vt) : Prop where
  f : OwnG KI wk w.heap.size (.slice (some ⟨gf, 0, none⟩) F.length cf) F
  s : OwnG KI wk w.heap.size (.slice (some ⟨gs, 0, none⟩) S.length cs) (begL 0 S)
  d : OwnG KI wk w.heap.size (.slice (some ⟨gd, 0, none⟩) S.length cd) (dsV S)
  n1 : gf ≠ gs
  n2 : gf ≠ gd
  n3 : gs ≠ gd
  bl : Below w.heap.size w wk
  fr : FrL F 0 S
  fl : F.length = szVL S
theorem R3.below {w wk w' : World} {gf cf gs cs gd cd : Nat} {F : List Int} {S : List Vt} (h : R3 w wk gf cf gs cs gd cd F S) (b : Below wk.heap.size wk w') : R3 w w' gf cf gs cs gd cd F S := ⟨h.f.below b, h.s.below b, h.d.below b, h.n1, h.n2, h.n3, h.bl.trans (b.mono h.bl.size), h.fr, h.fl⟩
theorem R3.start (w : World) : R3 w (((w.alloc (.cells #[] 3)).alloc (.cells #[] 3)).alloc (.cells #[] 3)) w.heap.size 0 (w.heap.size + 1) 0 (w.heap.size + 2) 0 [] [] := by
  have s1 : (w.alloc (.cells #[] 3)).heap.size = w.heap.size + 1 := by simp
  have s2 : ((w.alloc (.cells #[] 3)).alloc (.cells #[] 3)).heap.size = w.heap.size + 2 := by simp
  have b1 : Below w.heap.size w (w.alloc (.cells #[] 3)) := (Below.refl _ _).alloc (Nat.le_refl _) _
  have b2 : Below (w.alloc (.cells #[] 3)).heap.size (w.alloc (.cells #[] 3)) ((w.alloc (.cells #[] 3)).alloc (.cells #[] 3)) := (Below.refl _ _).alloc (Nat.le_refl _) _
  have b3 : Below ((w.alloc (.cells #[] 3)).alloc (.cells #[] 3)).heap.size ((w.alloc (.cells #[] 3)).alloc (.cells #[] 3)) (((w.alloc (.cells #[] 3)).alloc (.cells #[] 3)).alloc (.cells #[] 3)) := (Below.refl _ _).alloc (Nat.le_refl _) _
  have o1 := ((OwnG.empty KI w).below b2).below b3
  have o2 := (OwnG.empty KI (w.alloc (.cells #[] 3))).below b3
  have o3 := OwnG.empty KI ((w.alloc (.cells #[] 3)).alloc (.cells #[] 3))
  rw [s1] at o2
  rw [s2] at o3
  exact ⟨o1, o2.low (by omega), o3.low (by omega), by omega, by omega, by omega, b1.trans ((b2.mono (by omega)).trans (b3.mono (by omega))), trivial, rfl⟩
/-- The deepest of the last j. -/
def mxE (S : List Vt) (j : Nat) : Nat := dpVL (S.drop (S.length - j))
theorem mxE_next {S : List Vt} {j : Nat} (h : j < S.length) : mxE S (j + 1) = max (mxE S j) (dpV (S[S.length - 1 - j]'(by omega))) := by
  unfold mxE
  have e : S.drop (S.length - (j + 1)) = S[S.length - 1 - j]'(by omega) :: S.drop (S.length - j) := by
    have h1 := List.drop_eq_getElem_cons (l := S) (i := S.length - (j + 1)) (by omega)
    have h2 : S.length - (j + 1) + 1 = S.length - j := by omega
    have h3 : S.length - (j + 1) = S.length - 1 - j := by omega
    rw [h2] at h1
    rw [h1]
    congr 1
    simp only [h3]
  rw [e, dpVL]; omega
theorem mxE_sz {S : List Vt} {j : Nat} : mxE S j ≤ szVL S := by
  unfold mxE
  have h1 := dpVL_sz S
  have h2 : dpVL (S.drop (S.length - j)) ≤ dpVL S := by
    rw [dpVL_le]
    exact fun t ht => (dpVL_le S (dpVL S)).1 (Nat.le_refl _) t (List.mem_of_mem_drop ht)
  omega
/-- One atom more. -/
theorem R3.next {w w5 w6 w7 w8 : World} {gf cf gs cs gd cd m g6 c6 g7 c7 g8 c8 : Nat} {F : List Int} {S : List Vt} {a : Atm} (h : R3 w w5 gf cf gs cs gd cd F S) (ho : okV S a = true) (hm : cutV S a = m)
    (o6 : OwnG KI w6 w.heap.size (.slice (some ⟨g6, 0, none⟩) ((begL 0 (S.take m)).length + 1) c6) (begL 0 (S.take m) ++ [((szVL (S.take m) : Nat) : Int)])) (b6 : Below w.heap.size w5 w6) (k6 : ∀ k, k < w5.heap.size → some k ≠ (Value.slice (some ⟨gs, 0, none⟩) m cs).ownBlock → w6.heap[k]? = w5.heap[k]?) (q6 : (Value.slice (some ⟨gs, 0, none⟩) m cs).ownBlock = some g6 ∨ w5.heap.size ≤ g6)
    (o7 : OwnG KI w7 w.heap.size (.slice (some ⟨g7, 0, none⟩) ((dsV (S.take m)).length + 1) c7) (dsV (S.take m) ++ [((dpVL (S.drop m) : Nat) : Int) + 1])) (b7 : Below w.heap.size w6 w7) (k7 : ∀ k, k < w6.heap.size → some k ≠ (Value.slice (some ⟨gd, 0, none⟩) m cd).ownBlock → w7.heap[k]? = w6.heap[k]?) (q7 : (Value.slice (some ⟨gd, 0, none⟩) m cd).ownBlock = some g7 ∨ w6.heap.size ≤ g7)
    (o8 : OwnG KI w8 w.heap.size (.slice (some ⟨g8, 0, none⟩) (F.length + 1) c8) (F ++ [((szVL (S.take m) : Nat) : Int)])) (b8 : Below w.heap.size w7 w8) (k8 : ∀ k, k < w7.heap.size → some k ≠ (Value.slice (some ⟨gf, 0, none⟩) F.length cf).ownBlock → w8.heap[k]? = w7.heap[k]?) (q8 : (Value.slice (some ⟨gf, 0, none⟩) F.length cf).ownBlock = some g8 ∨ w7.heap.size ≤ g8) :
    R3 w w8 g8 c8 g6 c6 g7 c7 (F ++ [((szVL (S.take m) : Nat) : Int)]) (stV S a) := by
  subst hm
  have f6 := own_keep h.f k6 h.n1
  have d6 := own_keep h.d k6 (Ne.symm h.n3)
  have e1 : gf ≠ g6 := own_ne h.f q6 h.n1
  have e2 : gd ≠ g6 := own_ne h.d q6 (Ne.symm h.n3)
  have f7 := own_keep f6 k7 h.n2
  have s7 := own_keep o6 k7 (Ne.symm e2)
  have e3 : gf ≠ g7 := own_ne f6 q7 h.n2
  have e4 : g6 ≠ g7 := own_ne o6 q7 (Ne.symm e2)
  have s8 := own_keep s7 k8 (Ne.symm e1)
  have d8 := own_keep o7 k8 (Ne.symm e3)
  have e5 : g6 ≠ g8 := own_ne s7 q8 (Ne.symm e1)
  have e6 : g7 ≠ g8 := own_ne o7 q8 (Ne.symm e3)
  have hl : (stV S a).length = (S.take (cutV S a)).length + 1 := by unfold stV; simp
  refine ⟨by rw [List.length_append]; exact o8, ?_, ?_, Ne.symm e5, Ne.symm e6, e4, ((h.bl.trans b6).trans b7).trans b8, h.fr.step h.fl, ?_⟩
  · rw [begL_st ho, hl, ← begL_len 0 (S.take (cutV S a))]; exact s8
  · rw [dsV_st, hl, ← dsV_len (S.take (cutV S a))]; exact d8
  · unfold szVL; rw [stV_flat ho, List.length_append, List.length_append, h.fl]; rfl
end Go.Proofs.YtbgeihgenckihaaDoor
