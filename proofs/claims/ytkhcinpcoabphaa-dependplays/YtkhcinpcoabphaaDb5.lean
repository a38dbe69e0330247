/- Depend: the sort of what is tied to one; tied. -/
import Derived.Test.YtkhcinpcoabphaaDb4
namespace Go.Proofs.Ytkhcinpcoabphaa
open Go.RowKit

def nI (l : List Nat) : List Int := l.map fun i : Nat => (i : Int)
theorem nI_len (l : List Nat) : (nI l).length = l.length := by simp [nI]
theorem nI_flat (l : List Nat) : (nI l).flatMap KI.f = l.map fun i : Nat => Value.int .i64 i := by
  unfold nI
  induction l with
  | nil => rfl
  | cons a l ih => rw [List.map_cons, List.flatMap_cons, ih]; rfl
def encF {n : Nat} (i : Fin n) : Value := .int .i64 (i.val : Int)
theorem own_sorted {n : Nat} [Inhabited (Fin n)] {w : World} {base g cap : Nat} {L : List Nat} (h : OwnG KI w base (.slice (some ⟨g, 0, none⟩) L.length cap) (nI L)) (d' : Array (Fin n)) (hd : d'.size = L.length) (m : Nat) (os : Array Obj) : OwnG KI (Go.Proofs.sortWorld encF w g 0 m d' os) base (.slice (some ⟨g, 0, none⟩) L.length cap) (nI (d'.toList.map Fin.val)) := by
  obtain ⟨h1, h2⟩ := h
  have hlen : (nI (d'.toList.map Fin.val)).length = L.length := by rw [nI_len]; simp [hd]
  refine ⟨by rw [RK.flat_len KI_ok.len], ?_⟩
  rcases h2 with ⟨h2, _⟩ | ⟨g', cp, cur, e1, e2, e3, e4, e5, e6, e7⟩
  · cases h2
  · injection e1 with e1 e8 e9
    injection e1 with e1
    injection e1 with e1 _ _
    subst e1 e9
    rw [nI_len] at e4 e7
    have hg : g < w.heap.size := lt_of_heap e3
    have e6' : cur.size = cap := by rw [e6]; exact Nat.mul_one _
    refine Or.inr ⟨g, cap, Go.Sort.putCells encF 0 d' cur, by rw [hlen], e2, ?_, by rw [hlen]; exact e4, e5, by unfold Go.Sort.putCells; rw [Array.size_mapIdx]; exact e6, ?_⟩
    · unfold Go.Proofs.sortWorld
      rw [Go.Sort.heap_grow_old _ _ (by rw [Go.Sort.size_putRow]; exact hg)]
      show (w.heap.modify g (Go.Sort.onCells (Go.Sort.putCells encF 0 d')))[g]? = _
      rw [Array.getElem?_modify, if_pos rfl, e3]
      rfl
    · rw [hlen, nI_flat]
      apply List.ext_getElem?
      intro k
      show (List.take (L.length * 1) _)[k]? = _
      rw [Nat.mul_one]
      by_cases hk : k < L.length
      · rw [List.getElem?_take_of_lt hk]
        unfold Go.Sort.putCells
        have hkc : k < cur.size := by omega
        have hkd : k < d'.size := by omega
        rw [Array.getElem?_toList, Array.getElem?_mapIdx, Array.getElem?_eq_getElem hkc]
        simp only [Option.map_some, Nat.zero_le, Nat.zero_add, true_and, Nat.sub_zero]
        rw [if_pos hkd, getElem!_pos d' k hkd]
        simp [encF, hkd]
      · rw [List.getElem?_eq_none (by simp; omega), List.getElem?_eq_none (by simp; omega)]
def cfT (ts : List Ti) (n : Nat) (x y : Fin n) : Int := cmpN (tiA ts x.val).made (tiA ts y.val).made
theorem ltT (ts : List Ti) (n : Nat) (x y : Fin n) : Go.Proofs.ltOf (cfT ts n) x y = decide ((tiA ts x.val).made < (tiA ts y.val).made) := by
  unfold Go.Proofs.ltOf cfT cmpN
  by_cases h1 : ((tiA ts x.val).made : Int) < (tiA ts y.val).made
  · rw [if_pos h1]; simp; omega
  · rw [if_neg h1]
    split <;> simp <;> omega
theorem swoT (ts : List Ti) (n : Nat) : Go.Sort.SWO (Go.Proofs.ltOf (cfT ts n)) where
  irrefl x := by rw [ltT]; simp
  trans x y z h1 h2 := by rw [ltT] at *; simp at *; omega
  ntrans x y z h1 h2 := by rw [ltT] at *; simp at *; omega
/-- slices.SortFunc by when they were made. -/
theorem sortT_any (ts : List Ti) (hi : INJ ts) (hn : ts.length ≤ 1000) (to : Nat) (B : Nat) (p : Option Addr) (c : Nat) (w : World) (base : Nat) (v : Value) (hB : w.heap[B]? = some (.cells #[.slice p ts.length c] 77)) (h : GS KT w (.slice p ts.length c) ts) (ho : OwnG KI w base v (nI (hitL ts to ts.length))) (hbB : B < base) (hpB : ∀ x, (Value.slice p ts.length c).ownBlock = some x → x < base) (hbw : base ≤ w.heap.size) : Calls Try.prog 46 #[v, .func (.func 47) #[] #[.pointer (some ⟨B, 0, none⟩)]] w fun e w' => e = .returned (.tuple #[]) ∧ OwnG KI w' base v (nI (tl ts to)) ∧ Below base w w' := by
  by_cases hz : hitL ts to ts.length = []
  · obtain ⟨q, cap, hv, _⟩ := ho.form
    have hcon := AnyF.slices_SortFunc_none (P := Try.prog) (ρ := Try.sortF46_ren) { Try.sortF46 with } q cap (.func (.func 47) #[] #[.pointer (some ⟨B, 0, none⟩)]) w
    change Calls Try.prog 46 _ _ _ at hcon
    rw [hz] at hv ho
    rw [hv]
    refine hcon.mono ?_
    rintro e w' ⟨rfl, rfl⟩
    refine ⟨rfl, ?_, Below.refl _ _⟩
    have : tl ts to = [] := List.Perm.eq_nil (by rw [← hz]; exact tl_perm ts to)
    rw [this, ← hv]; exact ho
  · have hpos : 0 < ts.length := by
      rcases Nat.eq_zero_or_pos ts.length with e | e
      · exact absurd (by rw [e]; rfl) hz
      · exact e
    obtain ⟨N, hN⟩ : ∃ N, N = ts.length := ⟨_, rfl⟩
    haveI : Inhabited (Fin N) := ⟨⟨0, by omega⟩⟩
    rw [← hN] at hz ho
    obtain ⟨H, hH⟩ : ∃ H, H = hitL ts to N := ⟨_, rfl⟩
    rw [← hH] at hz ho
    have hHl : H.length ≤ 1000 := by rw [hH]; have := hitL_len ts to N; omega
    have hlt : ∀ x ∈ H, x < N := fun x hx => by rw [hH] at hx; exact hitL_lt hx
    have hne : v.ownBlock ≠ none := fun e => by
      rcases ho.2 with ⟨_, e2⟩ | ⟨g, cp, cur, e1, _⟩
      · rw [nI_len] at e2; exact hz (List.length_eq_zero_iff.1 e2)
      · rw [e1] at e; cases e
    obtain ⟨g, cap, hv, hcap⟩ := ho.place hne
    rw [nI_len] at hv hcap
    subst hv
    have hgb := ho.lt (g := g) rfl
    obtain ⟨D, hD⟩ : ∃ D : Array (Fin N), D.toList.map Fin.val = H := ⟨(H.pmap (fun i h => (⟨i, h⟩ : Fin N)) hlt).toArray, by simp [List.map_pmap]⟩
    have hDs : D.size = H.length := by rw [← hD]; simp
    have hDat : ∀ j (hj : j < H.length), (D[j]!).val = H[j] := fun j hj => by
      have e1 : H[j]? = (D.toList.map Fin.val)[j]? := by rw [hD]
      rw [List.getElem?_eq_getElem hj] at e1
      rw [getElem!_pos D j (by omega)]
      rw [List.getElem?_map, Array.getElem?_toList, Array.getElem?_eq_getElem (by omega)] at e1
      simp at e1
      exact e1.symm
    have hHo : Go.Sort.Holds (encF (n := N)) w g 0 D := fun j hj => by
      refine ⟨?_, by rw [Nat.zero_add]; exact own_frozen ho j⟩
      obtain ⟨Y, o, e1, hc⟩ := (ho.gs KI_ok.len).atI (k := j) (by rw [nI_len]; omega)
      injection e1 with e1
      injection e1 with e1 e2 _
      subst e1 e2
      rw [hc]
      unfold encF
      rw [hDat j (by omega)]
      simp [nI]
    have hcmp : Go.Proofs.CmpLays1 Try.prog 47 #[.pointer (some ⟨B, 0, none⟩)] (encF (n := N)) (cfT ts N) g 0 D.size w := fun m os dk _ x y => by
      have hgr : ∀ k, k < w.heap.size → k ≠ g → (Go.Proofs.sortWorld (encF (n := N)) w g 0 m dk os).heap[k]? = w.heap[k]? := fun k hk hne => by
        unfold Go.Proofs.sortWorld
        rw [Go.Sort.heap_grow_old _ _ (by rw [Go.Sort.size_putRow]; exact hk)]
        have : g ≠ k := fun e => hne e.symm
        simp [Go.Sort.putRow, Go.Sort.mapBlock, Go.Sort.ahead, Array.getElem?_modify, this]
      have hsz : w.heap.size ≤ (Go.Proofs.sortWorld (encF (n := N)) w g 0 m dk os).heap.size := by
        unfold Go.Proofs.sortWorld
        rw [Go.Sort.size_grow, Go.Sort.size_putRow]
        show w.heap.size ≤ w.heap.size + _
        omega
      refine tied1_any ts x.val y.val (by rw [← hN]; exact x.isLt) (by rw [← hN]; exact y.isLt) hn B p c _ ?_ (h.blk hsz fun z hz hzl => hgr z hzl ?_)
      · have : (Go.Proofs.sortWorld (encF (n := N)) w g 0 m dk os).heap[B]? = some (.cells #[.slice p ts.length c] 77) := (hgr B (by omega) (by omega)).trans hB
        exact cell_of_row _ _ _ _ _ _ this
      · have := hpB z hz; omega
    have hcon := Any.slices_SortFunc Try.sortF46 (encF (n := N)) (fun _ => rfl) (cfT ts N) (swoT ts N) 47 #[.pointer (some ⟨B, 0, none⟩)] g 0 cap D w Try.call47 hcmp hHo hgb.2 (by omega)
    change Calls Try.prog 46 _ _ _ at hcon
    rw [hDs] at hcon
    refine hcon.mono ?_
    rintro e w' ⟨rfl, d', n, os, ⟨hp1, hp2, hp3⟩, hs, hw⟩
    have hd : d'.size = H.length := by rw [hp1, hDs]
    have hperm : (d'.toList.map Fin.val).Perm H := by
      have e1 : (d'.extract 0 H.length).toList = d'.toList := by rw [← hd]; simp
      have e2 : (D.extract 0 H.length).toList = D.toList := by rw [← hDs]; simp
      rw [e1, e2] at hp3
      rw [← hD]
      exact hp3.map _
    have hT : d'.toList.map Fin.val = tl ts to := by
      refine (tl_eq hi (TL.of_perm hi ?_ ?_)).symm
      · rw [← hN, ← hH]; exact hperm
      · rw [List.pairwise_map]
        refine List.pairwise_iff_getElem.2 (fun i j hi hj hij => ?_)
        have h1 := hs i j (Nat.zero_le _) hij (by rw [← hd]; simpa using hj)
        rw [ltT] at h1
        have e1 : d'[i]! = d'.toList[i] := by rw [getElem!_pos d' i (by simpa using hi)]; simp
        have e2 : d'[j]! = d'.toList[j] := by rw [getElem!_pos d' j (by simpa using hj)]; simp
        rw [e1, e2] at h1
        simp at h1
        simpa using h1
    refine ⟨rfl, ?_, ?_⟩
    · rw [← hT, hw]
      exact own_sorted ho d' hd n os
    · have hgr : ∀ k, k < base → w'.heap[k]? = w.heap[k]? := fun k hk => by
        rw [hw]
        unfold Go.Proofs.sortWorld
        rw [Go.Sort.heap_grow_old _ _ (by rw [Go.Sort.size_putRow]; show k < w.heap.size; omega)]
        have : g ≠ k := by omega
        simp [Go.Sort.putRow, Go.Sort.mapBlock, Go.Sort.ahead, Array.getElem?_modify, this]
      refine ⟨by rw [hw]; rfl, by rw [hw]; rfl, by rw [hw]; rfl, ?_, fun k hk => hgr k hk⟩
      rw [hw]; unfold Go.Proofs.sortWorld
      rw [Go.Sort.size_grow, Go.Sort.size_putRow]
      show w.heap.size ≤ w.heap.size + _
      omega
end Go.Proofs.Ytkhcinpcoabphaa
