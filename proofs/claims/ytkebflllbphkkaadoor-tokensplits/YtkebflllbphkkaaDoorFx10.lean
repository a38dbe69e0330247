/- Failures: the reference's Deep. -/
import Derived.Test.YtkebflllbphkkaaDoorFx8
namespace Go.Proofs.YtkebflllbphkkaaDoor
open Go.RowKit

theorem leaf_crR {k : Int} {t : ByteArray} (hk : isK k = true) (h9 : k ≠ 9) (h10 : k ≠ 10) : (frow k).least = 0 ∧ crR ⟨k, 0, t⟩ = txT (frow k).text t := by
  have e := crB_crR ⟨k, 0, t⟩
  have hk2 := (isK_iff k).1 hk
  have hkk : k = 1 ∨ k = 2 ∨ k = 3 ∨ k = 4 ∨ k = 5 ∨ k = 6 ∨ k = 7 ∨ k = 8 ∨ k = 11 := by omega
  have hr : (frow k).least = 0 ∧ (0 : Int) ≤ (frow k).most := by
    rcases hkk with e | e | e | e | e | e | e | e | e <;> rw [e] <;> decide
  refine ⟨hr.1, ?_⟩
  unfold crB at e
  simp only at e
  rw [hk, hr.1, decide_eq_true (show (0 : Int) ≤ 0 ∧ (0 : Int) ≤ (frow k).most from ⟨Int.le_refl _, hr.2⟩)] at e
  simpa using e.symm
theorem leafE_ref (k : Int) (t : ByteArray) : leafE k t = if k < 1 ∨ 11 < k ∨ k = 9 ∨ k = 10 then 1 else if 4096 < t.size then 3 else if crR ⟨k, 0, t⟩ = true then 0 else 2 := by
  unfold leafE
  by_cases h : k < 1 ∨ 11 < k ∨ k = 9 ∨ k = 10
  · rw [if_pos h, if_pos]
    rcases h with h | h | h | h
    · left; unfold isK; simp; omega
    · left; unfold isK; simp; omega
    · right; rw [h]; decide
    · right; rw [h]; decide
  · have hk : isK k = true := (isK_iff k).2 (by omega)
    obtain ⟨h1, h2⟩ := leaf_crR (t := t) hk (by omega) (by omega)
    rw [if_neg h, if_neg (by rw [hk, h1]; simp), h2]
end Go.Proofs.YtkebflllbphkkaaDoor
namespace Go.Proofs.YtkebflllbphkkaaDoor
open Go.RowKit

def mxL : List Int → Int
  | [] => 0
  | a :: r => max a (mxL r)
/-- The depths of the wholes that are left. -/
def dpS : List Int → List Cr → List Int
  | S, [] => S
  | S, c :: r => dpS (S.take (S.length - c.n.toNat) ++ [mxL (S.drop (S.length - c.n.toNat)) + 1]) r
def deepV (l : List Cr) : Int := (dpS [] l).getD 0 0
theorem mxL_bd : ∀ (L : List Int) (B : Int), 0 ≤ B → (∀ x ∈ L, x ≤ B) → 0 ≤ mxL L ∧ mxL L ≤ B
  | [], B, h, _ => ⟨Int.le_refl _, h⟩
  | a :: r, B, h, hx => by
    have h1 := mxL_bd r B h (fun x hx2 => hx x (List.mem_cons_of_mem _ hx2))
    have h2 := hx a (List.mem_cons_self ..)
    rw [mxL]; omega
theorem mxL_drop {S : List Int} {q : Nat} (h : q < S.length) : mxL (S.drop q) = max (S.getD q 0) (mxL (S.drop (q + 1))) := by
  rw [List.drop_eq_getElem_cons h, mxL]; simp [h]
theorem walk_step {c : Cr} {r : List Cr} {s t : Int} (h : walkC s (c :: r) = some t) : (crB c = true ∧ c.n ≤ s) ∧ walkC (s + (1 - c.n)) r = some t := by
  rw [walkC] at h
  split at h
  · rename_i hc; exact ⟨hc, h⟩
  · cases h
theorem chk_ok {l : List Cr} (h : chk l = 0) : l.length ≤ 1024 ∧ walkC 0 l = some 1 := by
  unfold chk at h
  split at h
  · omega
  · split at h
    · rename_i h1 h2; exact ⟨by omega, h2⟩
    · omega
/-- How far the reference's Deep has come. -/
structure DI (w wk : World) (g cs : Nat) (S : List Int) (k : Nat) (l : List Cr) : Prop where
  s : OwnI wk w.heap.size (.slice (some ⟨g, 0, none⟩) S.length cs) S
  bl : Below w.heap.size w wk
  wl : walkC S.length (l.drop k) = some 1
  dp : dpS [] l = dpS S (l.drop k)
  bd : ∀ x ∈ S, 0 ≤ x ∧ x ≤ k
  ls : S.length ≤ k
theorem own_cell {w : World} {base g n cap : Nat} {S : List Int} (h : OwnI w base (.slice (some ⟨g, 0, none⟩) n cap) S) (hn : n = S.length) {j : Nat} (hj : j < S.length) : w.cell? ⟨g, j, none⟩ = some (.int .i64 (S.getD j 0)) := by
  subst hn
  rw [World.ownsRow.cellAt h j (by omega)]
  simp [iV, hj]
theorem own_cap {w : World} {base g n cap : Nat} {S : List Int} (h : OwnI w base (.slice (some ⟨g, 0, none⟩) n cap) S) : S.length ≤ cap := by
  rcases h.2 with ⟨e, _⟩ | ⟨g', cp, cur, e, _, _, hcp, _⟩
  · cases e
  · injection e with _ _ e; omega
theorem mem_getD {S : List Int} {j : Nat} (h : j < S.length) : S.getD j 0 ∈ S := by
  rw [List.getD_eq_getElem?_getD, List.getElem?_eq_getElem h]; exact List.getElem_mem h
end Go.Proofs.YtkebflllbphkkaaDoor
