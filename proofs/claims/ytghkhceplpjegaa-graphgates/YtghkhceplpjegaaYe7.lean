/- Graph: components sorted by their first nodes. -/
import Derived.Shelf.SlSortCmp.NoneTotal
import Derived.Ground.SlsfProg
import Derived.Test.YtghkhceplpjegaaProg
import Derived.Test.YtghkhceplpjegaaYe9
namespace Go.Proofs
open Go.Shelf
def Try.sortF71_ren : Go.Shelf.Ren := ⟨fun | 6 => 71 | 15 => 75 | 14 => 82 | 28 => 92 | 29 => 93 | 20 => 94 | 21 => 95 | 22 => 96 | 23 => 97 | 24 => 98 | 25 => 99 | 26 => 100 | 27 => 101 | 46 => 108 | 47 => 103 | 48 => 104 | 49 => 109 | 50 => 110 | 57 => 112 | n => n, fun | 22 => 42 | 24 => 25 | 25 => 90 | 3 => 3 | 39 => 85 | 0 => 0 | 53 => 101 | 55 => 51 | 4 => 4 | 46 => 109 | 45 => 108 | 50 => 113 | 5 => 5 | 9 => 9 | 66 => 122 | 70 => 126 | 76 => 130 | 77 => 131 | n => n, fun | n => n⟩
theorem Try.sortF71 : Go.Proofs.SlLaysF.n6 Try.prog Try.sortF71_ren := {
  mixed := by kernel_rfl
  f6 := ⟨Try.f71.name, by decide, Try.func71.trans (congrArg some (by kernel_rfl))⟩
  f14 := ⟨Try.f82.name, by decide, Try.func82.trans (congrArg some (by kernel_rfl))⟩
  f15 := Try.func75.trans (congrArg some (by kernel_rfl))
  f20 := ⟨Try.f94.name, by decide, Try.func94.trans (congrArg some (by kernel_rfl))⟩
  f21 := ⟨Try.f95.name, by decide, Try.func95.trans (congrArg some (by kernel_rfl))⟩
  f22 := ⟨Try.f96.name, by decide, Try.func96.trans (congrArg some (by kernel_rfl))⟩
  f23 := ⟨Try.f97.name, by decide, Try.func97.trans (congrArg some (by kernel_rfl))⟩
  f24 := ⟨Try.f98.name, by decide, Try.func98.trans (congrArg some (by kernel_rfl))⟩
  f25 := ⟨Try.f99.name, by decide, Try.func99.trans (congrArg some (by kernel_rfl))⟩
  f26 := ⟨Try.f100.name, by decide, Try.func100.trans (congrArg some (by kernel_rfl))⟩
  f27 := ⟨Try.f101.name, by decide, Try.func101.trans (congrArg some (by kernel_rfl))⟩
  f28 := Try.func92.trans (congrArg some (by kernel_rfl))
  f29 := Try.func93.trans (congrArg some (by kernel_rfl))
  f46 := ⟨Try.f108.name, by decide, Try.func108.trans (congrArg some (by kernel_rfl))⟩
  f47 := Try.func103.trans (congrArg some (by kernel_rfl))
  f48 := Try.func104.trans (congrArg some (by kernel_rfl))
  f49 := ⟨Try.f109.name, by decide, Try.func109.trans (congrArg some (by kernel_rfl))⟩
  f50 := ⟨Try.f110.name, by decide, Try.func110.trans (congrArg some (by kernel_rfl))⟩
  f57 := ⟨Try.f112.name, by decide, Try.func112.trans (congrArg some (by kernel_rfl))⟩
  t0 := Try.underlying0
  a0 := Try.isAgg0
  z0 := Try.sizeOf0
  v0 := Try.zeroValue0
  t3 := Try.underlying3
  a3 := Try.isAgg3
  z3 := Try.sizeOf3
  v3 := Try.zeroValue3
  t4 := Try.underlying4
  a4 := Try.isAgg4
  z4 := Try.sizeOf4
  v4 := Try.zeroValue4
  t5 := Try.underlying5
  a5 := Try.isAgg5
  z5 := Try.sizeOf5
  v5 := Try.zeroValue5
  t9 := Try.underlying9
  a9 := Try.isAgg9
  z9 := Try.sizeOf9
  v9 := Try.zeroValue9
  t22 := Try.underlying42
  a22 := Try.isAgg42
  z22 := Try.sizeOf42
  v22 := Try.zeroValue42
  a24 := Try.isAgg25
  z24 := Try.sizeOf25
  t25 := Try.underlying90
  a25 := Try.isAgg90
  z25 := Try.sizeOf90
  v25 := Try.zeroValue90
  t39 := Try.underlying85
  a39 := Try.isAgg85
  z39 := Try.sizeOf85
  v39 := Try.zeroValue85
  t45 := Try.underlying108
  a45 := Try.isAgg108
  z45 := Try.sizeOf108
  v45 := Try.zeroValue108
  t46 := Try.underlying109
  a46 := Try.isAgg109
  z46 := Try.sizeOf109
  v46 := Try.zeroValue109
  t50 := Try.underlying113
  a50 := Try.isAgg113
  z50 := Try.sizeOf113
  v50 := Try.zeroValue113
  t53 := Try.underlying101
  a53 := Try.isAgg101
  z53 := Try.sizeOf101
  v53 := Try.zeroValue101
  t55 := Try.underlying51
  a55 := Try.isAgg51
  z55 := Try.sizeOf51
  v55 := Try.zeroValue51
  t66 := Try.underlying122
  a66 := Try.isAgg122
  z66 := Try.sizeOf122
  v66 := Try.zeroValue122
  t70 := Try.underlying126
  a70 := Try.isAgg126
  z70 := Try.sizeOf126
  v70 := Try.zeroValue126
  t76 := Try.underlying130
  a76 := Try.isAgg130
  z76 := Try.sizeOf130
  v76 := Try.zeroValue130
  t77 := Try.underlying131
  a77 := Try.isAgg131
  z77 := Try.sizeOf131
  v77 := Try.zeroValue131 }
end Go.Proofs
namespace Go.Proofs.Ytghkhceplpjegaa
open Go.RowKit

theorem KS_flat (l : List Sl) : l.flatMap KS.f = l.map slV := by
  induction l with
  | nil => rfl
  | cons a l ih => rw [List.map_cons, List.flatMap_cons, ih]; rfl
theorem own_sortedS {n : Nat} [Inhabited (Fin n)] {w : World} {base g cap : Nat} {vs : List Sl} (f : Fin n → Sl) (h : OwnG KS w base (.slice (some ⟨g, 0, none⟩) vs.length cap) vs) (d' : Array (Fin n)) (hd : d'.size = vs.length) (m : Nat) (os : Array Obj) : OwnG KS (Go.Proofs.sortWorld (fun i => slV (f i)) w g 0 m d' os) base (.slice (some ⟨g, 0, none⟩) vs.length cap) (d'.toList.map f) := by
  obtain ⟨h1, h2⟩ := h
  have hlen : (d'.toList.map f).length = vs.length := by simp [hd]
  refine ⟨by rw [RK.flat_len KS_ok.len], ?_⟩
  rcases h2 with ⟨h2, _⟩ | ⟨g', cp, cur, e1, e2, e3, e4, e5, e6, e7⟩
  · cases h2
  · injection e1 with e1 e8 e9
    injection e1 with e1
    injection e1 with e1 _ _
    subst e1 e9
    have hg : g < w.heap.size := lt_of_heap e3
    have e6' : cur.size = cap := by rw [e6]; exact Nat.mul_one _
    refine Or.inr ⟨g, cap, Go.Sort.putCells (fun i => slV (f i)) 0 d' cur, by rw [hlen], e2, ?_, by rw [hlen]; exact e4, e5, by unfold Go.Sort.putCells; rw [Array.size_mapIdx]; exact e6, ?_⟩
    · unfold Go.Proofs.sortWorld
      rw [Go.Sort.heap_grow_old _ _ (by rw [Go.Sort.size_putRow]; exact hg)]
      show (w.heap.modify g (Go.Sort.onCells (Go.Sort.putCells (fun i => slV (f i)) 0 d')))[g]? = _
      rw [Array.getElem?_modify, if_pos rfl, e3]
      rfl
    · rw [hlen, KS_flat]
      apply List.ext_getElem?
      intro k
      show (List.take (vs.length * 1) _)[k]? = _
      rw [Nat.mul_one]
      by_cases hk : k < vs.length
      · rw [List.getElem?_take_of_lt hk]
        unfold Go.Sort.putCells
        have hkc : k < cur.size := by omega
        have hkd : k < d'.size := by omega
        rw [Array.getElem?_toList, Array.getElem?_mapIdx, Array.getElem?_eq_getElem hkc]
        simp only [Option.map_some, Nat.zero_le, Nat.zero_add, true_and, Nat.sub_zero]
        rw [if_pos hkd, getElem!_pos d' k hkd]
        simp [hkd]
      · rw [List.getElem?_eq_none (by simp; omega), List.getElem?_eq_none (by simp; omega)]
theorem sortWorld_far {n : Nat} [Inhabited (Fin n)] (enc : Fin n → Value) (w : World) (g m : Nat) (d : Array (Fin n)) (os : Array Obj) {k : Nat} (hk : k < w.heap.size) (hne : k ≠ g) : (Go.Proofs.sortWorld enc w g 0 m d os).heap[k]? = w.heap[k]? := by
  unfold Go.Proofs.sortWorld
  rw [Go.Sort.heap_grow_old _ _ (by rw [Go.Sort.size_putRow]; exact hk)]
  have : g ≠ k := fun e => hne e.symm
  simp [Go.Sort.putRow, Go.Sort.mapBlock, Go.Sort.ahead, Array.getElem?_modify, this]
theorem sortWorld_but {n : Nat} [Inhabited (Fin n)] (enc : Fin n → Value) (w : World) (g m : Nat) (d : Array (Fin n)) (os : Array Obj) : But (fun x => x = g) w (Go.Proofs.sortWorld enc w g 0 m d os) := by
  refine ⟨rfl, rfl, rfl, ?_, fun k hk hne => sortWorld_far enc w g m d os hk hne⟩
  unfold Go.Proofs.sortWorld
  rw [Go.Sort.size_grow, Go.Sort.size_putRow]
  show w.heap.size ≤ w.heap.size + _
  omega
def cfP (Q : List (List Nat)) (n : Nat) (x y : Fin n) : Int := (hdN (Q.getD x.val []) : Int) - (hdN (Q.getD y.val []) : Int)
theorem ltP (Q : List (List Nat)) (n : Nat) (x y : Fin n) : Go.Proofs.ltOf (cfP Q n) x y = decide (hdN (Q.getD x.val []) < hdN (Q.getD y.val [])) := by
  unfold Go.Proofs.ltOf cfP
  simp
  omega
theorem swoP (Q : List (List Nat)) (n : Nat) : Go.Sort.SWO (Go.Proofs.ltOf (cfP Q n)) where
  irrefl x := by rw [ltP]; simp
  trans x y z h1 h2 := by rw [ltP] at *; simp at *; omega
  ntrans x y z h1 h2 := by rw [ltP] at *; simp at *; omega
theorem own_at0 {w : World} {base : Nat} {s : Sl} {a : Nat} {t : List Nat} (h : OwnG KI w base (slV s) (nI (a :: t))) : ∃ X cap, slV s = .slice (some ⟨X, 0, none⟩) (t.length + 1) cap ∧ w.cell? ⟨X, 0, none⟩ = some (.int .i64 a) := by
  have hn : (slV s).ownBlock ≠ none := by
    intro e2
    rcases h.2 with ⟨_, e3⟩ | ⟨g, cap, cur, e3, _⟩
    · simp [nI] at e3
    · rw [e3] at e2; cases e2
  obtain ⟨g, cap, e, _⟩ := h.place hn
  rw [nI_len] at e
  refine ⟨g, cap, e, ?_⟩
  rw [e] at h
  obtain ⟨X, o, e1, hc⟩ := (h.gs KI_ok.len).atI (k := 0) (by simp [nI])
  injection e1 with e1
  injection e1 with e1 e2 _
  subst e1 e2
  exact hc
/-- slices.SortFunc of lists by their first nodes. -/
theorem sortP_any (Q : List (List Nat)) (vs : List Sl) (hQ : Q.length = vs.length) (hne : ∀ i, i < vs.length → ∃ a t, Q.getD i [] = a :: t ∧ a < 4096) (hl : vs.length ≤ 4096) (w : World) (base : Nat) (v : Value) (ho : OwnG KS w base v vs) (hr : ∀ i, i < vs.length → OwnG KI w base (slV (vs.getD i sl0)) (nI (Q.getD i []))) : Calls Try.prog 71 #[v, .func (.func 72) #[] #[]] w fun e w' => e = .returned (.tuple #[]) ∧ ∃ (Q' : List (List Nat)) (vs' : List Sl), vs'.length = vs.length ∧ Q'.Perm Q ∧ (Q'.Pairwise fun a b => hdN a ≤ hdN b) ∧ OwnG KS w' base v vs' ∧ (∀ i, i < vs'.length → OwnG KI w' base (slV (vs'.getD i sl0)) (nI (Q'.getD i []))) ∧ But (fun x => v.ownBlock = some x) w w' := by
  by_cases hz : vs = []
  · obtain ⟨q, cap, hv, _⟩ := ho.form
    have hcon := AnyF.slices_SortFunc_none (P := Try.prog) (ρ := Try.sortF71_ren) { Try.sortF71 with } q cap (.func (.func 72) #[] #[]) w
    change Calls Try.prog 71 _ _ _ at hcon
    subst hz
    rw [hv]
    refine hcon.mono ?_
    rintro e w' ⟨rfl, rfl⟩
    have hq0 : Q = [] := List.length_eq_zero_iff.1 hQ
    subst hq0
    refine ⟨rfl, [], [], rfl, List.Perm.refl _, List.Pairwise.nil, by rw [hv] at ho; exact ho, fun i hi => absurd hi (by simp), But.refl _ _⟩
  · have hpos : 0 < vs.length := List.length_pos_iff.2 hz
    obtain ⟨N, hN⟩ : ∃ N, N = vs.length := ⟨_, rfl⟩
    haveI : Inhabited (Fin N) := ⟨⟨0, by omega⟩⟩
    have hnn : v.ownBlock ≠ none := fun e => by
      rcases ho.2 with ⟨_, e2⟩ | ⟨g, cp, cur, e1, _⟩
      · exact hz (List.length_eq_zero_iff.1 e2)
      · rw [e1] at e; cases e
    obtain ⟨g, cap, hv, hcap⟩ := ho.place hnn
    subst hv
    have hgb := ho.lt (g := g) rfl
    obtain ⟨D, hD⟩ : ∃ D : Array (Fin N), D.toList.map Fin.val = List.range N := ⟨((List.range N).pmap (fun i h => (⟨i, h⟩ : Fin N)) (fun i hi => List.mem_range.1 hi)).toArray, by simp [List.map_pmap]⟩
    have hDs : D.size = vs.length := by
      have := congrArg List.length hD
      simp at this
      omega
    have hDat : ∀ j (hj : j < vs.length), (D[j]!).val = j := fun j hj => by
      have e1 : (List.range N)[j]? = (D.toList.map Fin.val)[j]? := by rw [hD]
      rw [List.getElem?_range (by omega)] at e1
      rw [getElem!_pos D j (by omega)]
      rw [List.getElem?_map, Array.getElem?_toList, Array.getElem?_eq_getElem (by omega)] at e1
      simp at e1
      exact e1.symm
    obtain ⟨f, hf⟩ : ∃ f : Fin N → Sl, f = fun i => vs.getD i.val sl0 := ⟨_, rfl⟩
    have hHo : Go.Sort.Holds (fun i : Fin N => slV (f i)) w g 0 D := fun j hj => by
      refine ⟨?_, by rw [Nat.zero_add]; exact own_frozen ho j⟩
      obtain ⟨Y, o, e1, hc⟩ := (ho.gs KS_ok.len).atS (k := j) (by omega)
      injection e1 with e1
      injection e1 with e1 e2 _
      subst e1 e2
      rw [hc]
      have hj2 : j < vs.length := by omega
      rw [hf]
      simp only [hDat j hj2]
      simp [List.getD, hj2]
    have hcmp : Go.Proofs.CmpLays1 Try.prog 72 #[] (fun i : Fin N => slV (f i)) (cfP Q N) g 0 D.size w := fun m os dk _ x y => by
      have key : ∀ z : Fin N, ∃ X cap n, slV (f z) = .slice (some ⟨X, 0, none⟩) n cap ∧ 0 < n ∧ hdN (Q.getD z.val []) < 4096 ∧ (Go.Proofs.sortWorld (fun i : Fin N => slV (f i)) w g 0 m dk os).cell? ⟨X, 0, none⟩ = some (.int .i64 (hdN (Q.getD z.val []) : Nat)) := fun z => by
        have hz2 : z.val < vs.length := by rw [← hN]; exact z.isLt
        obtain ⟨a, t, e, ha⟩ := hne z.val hz2
        have h1 := hr z.val hz2
        rw [e] at h1 ⊢
        have h2 : OwnG KI (Go.Proofs.sortWorld (fun i : Fin N => slV (f i)) w g 0 m dk os) base (slV (vs.getD z.val sl0)) (nI (a :: t)) := h1.far fun k hk => sortWorld_far _ w g m dk os (h1.lt hk).2 (fun e => by subst e; exact h1.apart ho (by decide) rfl hk)
        obtain ⟨X, cap, e2, hc⟩ := own_at0 h2
        exact ⟨X, cap, t.length + 1, by rw [hf]; exact e2, by omega, ha, hc⟩
      obtain ⟨X, c1, n1, e1, p1, l1, k1⟩ := key x
      obtain ⟨Y, c2, n2, e2, p2, l2, k2⟩ := key y
      have := cmp_any (Go.Proofs.sortWorld (fun i : Fin N => slV (f i)) w g 0 m dk os) X Y 0 0 n1 n2 c1 c2 _ _ l1 l2 k1 k2 p1 p2
      rw [← e1, ← e2] at this
      exact this
    have hcon := Any.slices_SortFunc Try.sortF71 (fun i : Fin N => slV (f i)) (fun _ => rfl) (cfP Q N) (swoP Q N) 72 #[] g 0 cap D w Try.call72 hcmp hHo hgb.2 (by omega)
    change Calls Try.prog 71 _ _ _ at hcon
    rw [hDs] at hcon
    refine hcon.mono ?_
    rintro e w' ⟨rfl, d', n, os, ⟨hp1, hp2, hp3⟩, hs, hw⟩
    have hd : d'.size = vs.length := by rw [hp1, hDs]
    have hperm : (d'.toList.map Fin.val).Perm (List.range N) := by
      have e1 : (d'.extract 0 vs.length).toList = d'.toList := by rw [← hd]; simp
      have e2 : (D.extract 0 vs.length).toList = D.toList := by rw [← hDs]; simp
      rw [e1, e2] at hp3
      rw [← hD]
      exact hp3.map _
    have hbut := sortWorld_but (fun i : Fin N => slV (f i)) w g n d' os
    refine ⟨rfl, d'.toList.map (fun i => Q.getD i.val []), d'.toList.map f, by simp [hd], ?_, ?_, ?_, fun i hi => ?_, ?_⟩
    · have h1 := hperm.map (fun i => Q.getD i [])
      rw [List.map_map] at h1
      have h2 : (List.range N).map (fun i => Q.getD i []) = Q := by
        apply List.ext_getElem
        · simp [hN, hQ]
        · intro k h3 h4
          simp [List.getD, h4]
      rw [h2] at h1
      exact h1
    · rw [List.pairwise_map]
      refine List.pairwise_iff_getElem.2 (fun i j hi hj hij => ?_)
      have h1 := hs i j (Nat.zero_le _) hij (by rw [← hd]; simpa using hj)
      rw [ltP] at h1
      have e1 : d'[i]! = d'.toList[i] := by rw [getElem!_pos d' i (by simpa using hi)]; simp
      have e2 : d'[j]! = d'.toList[j] := by rw [getElem!_pos d' j (by simpa using hj)]; simp
      rw [e1, e2] at h1
      simp only [decide_eq_false_iff_not, Nat.not_lt] at h1
      exact h1
    · rw [hw]; exact own_sortedS f ho d' hd n os
    · have hi2 : i < d'.size := by simpa using hi
      have e1 : (d'.toList.map f).getD i sl0 = vs.getD d'[i].val sl0 := by simp [List.getD, hi2, hf]
      have e2 : (d'.toList.map (fun i => Q.getD i.val [])).getD i [] = Q.getD d'[i].val [] := by simp [List.getD, hi2]
      rw [e1, e2]
      have h1 := hr d'[i].val (by rw [← hN]; exact d'[i].isLt)
      rw [hw]
      exact h1.far fun k hk => sortWorld_far _ w g n d' os (h1.lt hk).2 (fun e => by subst e; exact h1.apart ho (by decide) rfl hk)
    · rw [hw]
      exact ⟨hbut.os, hbut.tape, hbut.output, hbut.size, fun x hx hne => hbut.block x hx fun e => hne (by rw [e]; rfl)⟩
end Go.Proofs.Ytghkhceplpjegaa
