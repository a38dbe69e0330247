/- Waiting: the sort by when they came. -/
import Derived.Test.YtofdfofpdfaimaaWd5
import Derived.Test.YtofdfofpdfaimaaSortF
namespace Go.Proofs.Ytofdfofpdfaimaa
open Go.RowKit Go.Maps

instance : Inhabited Wt := ⟨w0⟩
instance : Inhabited Wc := ⟨⟨w0, 0⟩⟩
theorem eq_list (x y : ByteArray) : (x.toList == y.toList) = decide (x = y) := by
  by_cases h : x = y
  · subst h; simp
  · have : ¬ x.toList = y.toList := fun e => h (by rw [ByteArray.toList_eq, ByteArray.toList_eq] at e; cases x; cases y; simp at e; subst e; rfl)
    rw [decide_eq_false h]; simpa using this
def cmpN (x y : Int) : Int := if x < y then -1 else if y < x then 1 else 0
set_option maxHeartbeats 2000000 in
theorem isNaN_any (x : Int) (w : World) : Calls Try.prog 68 #[.int .i64 x] w fun e w' => e = .returned (.bool false) ∧ w' = w := by
  go_enter Try.func68, Try.ntmps68
  go_wp2
  go_ret
  exact ⟨ret_bool (by simp), rfl⟩
set_option maxHeartbeats 2000000 in
theorem compare_any (x y : Int) (w : World) : Calls Try.prog 58 #[.int .i64 x, .int .i64 y] w fun e w' => e = .returned (.int .i64 (cmpN x y)) ∧ w' = w := by
  have N := hid (fun z w' => isNaN_any z w')
  have HE : Hid (cmpN x y = if x < y then -1 else if y < x then 1 else 0) := rfl
  generalize cmpN x y = r at *
  by_cases h1 : x < y
  · go_enter Try.func58, Try.ntmps58
    go_wp2_with (go_at_call 68; refine (N.out _ _).mono ?_; rintro e w' ⟨rfl, hw⟩; rw [hw]; clear hw)
    go_ret
    exact ⟨ret_i (by rw [HE.out, if_pos h1]), rfl⟩
  · by_cases h2 : y < x
    · go_enter Try.func58, Try.ntmps58
      go_wp2_with (go_at_call 68; refine (N.out _ _).mono ?_; rintro e w' ⟨rfl, hw⟩; rw [hw]; clear hw)
      go_ret
      exact ⟨ret_i (by rw [HE.out, if_neg (by omega), if_pos h2]), rfl⟩
    · go_enter Try.func58, Try.ntmps58
      go_wp2_with (go_at_call 68; refine (N.out _ _).mono ?_; rintro e w' ⟨rfl, hw⟩; rw [hw]; clear hw)
      go_ret
      exact ⟨ret_i (by rw [HE.out, if_neg (by omega), if_neg (by omega)]), rfl⟩
set_option maxHeartbeats 2000000 in
theorem byCame_any (x y : Wc) (w : World) : Calls Try.prog 57 #[.agg #[.int .i64 x.w.task, .int .i64 x.w.kind, .string x.w.key, .string x.w.tok, .int .i64 x.came], .agg #[.int .i64 y.w.task, .int .i64 y.w.kind, .string y.w.key, .string y.w.tok, .int .i64 y.came]] w fun e w' => e = .returned (.int .i64 (cmpN x.came y.came)) ∧ ∃ q os', w' = Go.Sort.grow (w.drewN q) os' := by
  have CM := hid (fun w' => compare_any x.came y.came w')
  generalize cmpN x.came y.came = r at *
  go_enter Try.func57, Try.ntmps57
  go_wp2_with (go_at_call 58; refine (CM.out _).mono ?_; rintro e w' ⟨rfl, hw⟩; rw [hw]; clear hw)
  go_ret
  exact ⟨rfl, 0, _, by rw [Go.Sort.alloc_eq_grow, Go.Sort.alloc_eq_grow, Go.Sort.grow_grow]; rfl⟩
def cfW (x y : Wc) : Int := cmpN x.came y.came
theorem ltW (x y : Wc) : Go.Proofs.ltOf cfW x y = decide (x.came < y.came) := by
  unfold Go.Proofs.ltOf cfW cmpN
  by_cases h1 : (x.came : Int) < y.came
  · rw [if_pos h1]; simp; omega
  · rw [if_neg h1]
    split <;> simp <;> omega
theorem swoW : Go.Sort.SWO (Go.Proofs.ltOf cfW) where
  irrefl x := by rw [ltW]; simp
  trans x y z h1 h2 := by rw [ltW] at *; simp at *; omega
  ntrans x y z h1 h2 := by rw [ltW] at *; simp at *; omega
theorem flat_eq (G : Array Wc) : ∀ t, t < G.size * 5 → (Go.Sort.flatK wcL 5 G)[t]! = (wcL G[t / 5]!)[t % 5]! := fun t h => Go.Sort.get_flatK wcL 5 G t h
theorem gs_of_holds {w : World} {g n cap : Nat} {G : List Wc} (hn : n = G.length) (hg : g < w.heap.size) (hc : G.length ≤ cap) (h : Go.Sort.HoldsK wcL 5 w g 0 G.toArray) : GS KC w (.slice (some ⟨g, 0, none⟩) n cap) G := by
  subst hn
  refine Or.inr ⟨g, 0, cap, rfl, hg, hc, fun k hk j u hu => ?_⟩
  have hj : j < 5 := by
    by_cases q : j < 5
    · exact q
    · rw [List.getElem?_eq_none (by show (wcL _).length ≤ j; simp [wcL]; omega)] at hu; cases hu
  have hlt : k * 5 + j < (Go.Sort.flatK wcL 5 G.toArray).size := by
    rw [Go.Sort.size_flatK]; simp; omega
  have h1 := (h (k * 5 + j) hlt).1
  rw [flat_eq _ _ (by simpa using hlt)] at h1
  have e1 : (k * 5 + j) / 5 = k := by omega
  have e2 : (k * 5 + j) % 5 = j := by omega
  rw [e1, e2] at h1
  have e3 : G.toArray[k]! = G[k] := by simp [hk]
  rw [e3] at h1
  have e4 : (wcL G[k])[j]! = u := by
    have hu2 : (wcL G[k])[j]? = some u := hu
    rw [List.getElem!_eq_getElem?_getD, hu2]; rfl
  rw [e4] at h1
  rw [show 0 + k * KC.W + j = 0 + (k * 5 + j) by show 0 + k * 5 + j = _; omega]
  exact h1
theorem holds_of {w : World} {base g n cap : Nat} {G : List Wc} (h : OwnG KC w base (.slice (some ⟨g, 0, none⟩) n cap) G) (hn : n = G.length) : Go.Sort.HoldsK wcL 5 w g 0 G.toArray := by
  subst hn
  intro t ht
  rw [Go.Sort.size_flatK] at ht
  have ht2 : t < G.length * 5 := by simpa using ht
  refine ⟨?_, by rw [Nat.zero_add]; exact own_frozen h t⟩
  rw [flat_eq _ _ ht]
  have hk : t / 5 < G.length := by omega
  obtain ⟨X, o, e1, _, h2⟩ := (h.gs KC_ok.len).at hk
  injection e1 with e1
  injection e1 with e1 e2 _
  subst e1 e2
  have hl : t % 5 < (wcL G[t / 5]).length := by show t % 5 < 5; omega
  have h3 := h2 (t % 5) (wcL G[t / 5])[t % 5] (List.getElem?_eq_getElem hl)
  rw [show 0 + t / 5 * KC.W + t % 5 = 0 + t by show 0 + t / 5 * 5 + t % 5 = _; omega] at h3
  rw [h3]
  have e3 : G.toArray[t / 5]! = G[t / 5] := by simp [hk]
  rw [e3]
  simp [List.getElem!_eq_getElem?_getD, List.getElem?_eq_getElem hl]
/-- slices.SortFunc by when they came. -/
theorem sortG_any (g cap : Nat) (G : List Wc) (w : World) (base : Nat) (h : OwnG KC w base (.slice (some ⟨g, 0, none⟩) G.length cap) G) (hl : G.length ≤ 1000) : Calls Try.prog 56 #[.slice (some ⟨g, 0, none⟩) G.length cap, .func (.func 57) #[] #[]] w fun e w' => e = .returned (.tuple #[]) ∧ ∃ G', G'.Perm G ∧ (G'.Pairwise fun a b => a.came ≤ b.came) ∧ GS KC w' (.slice (some ⟨g, 0, none⟩) G.length cap) G' ∧ But (fun x => x = g) w w' := by
  have hg : g < w.heap.size := (h.lt rfl).2
  have hcap : G.length ≤ cap := (h.gs KC_ok.len).cap
  have hH := holds_of h rfl
  have hsz : G.toArray.size = G.length := by simp
  have hcon := AnyQ.slices_SortFunc Try.sortF56 5 Try.isAgg69 Try.sizeOf69 wcL (fun _ => rfl) KC_ok.one cfW swoW 57 #[] g 0 cap G.toArray w Try.call57 (fun m os dk _ x y => byCame_any x y _) hH hg (by rw [hsz]; omega)
  change Calls Try.prog 56 _ _ _ at hcon
  rw [hsz] at hcon
  refine hcon.mono ?_
  rintro e w' ⟨rfl, d', n, os, ⟨hp1, hp2, hp3⟩, hs, hw⟩
  have hd : d'.size = G.length := by rw [hp1, hsz]
  have hperm : d'.toList.Perm G := by
    have e1 : (d'.extract 0 G.length).toList = d'.toList := by rw [← hd]; simp
    have e2 : (G.toArray.extract 0 G.length).toList = G := by simp
    rw [e1, e2] at hp3
    exact hp3
  refine ⟨rfl, d'.toList, hperm, ?_, ?_, ?_⟩
  · refine List.pairwise_iff_getElem.2 (fun i j hi hj hij => ?_)
    have h1 := hs i j (Nat.zero_le _) hij (by rw [← hd]; simpa using hj)
    rw [ltW] at h1
    have e1 : d'[i]! = d'.toList[i] := by rw [getElem!_pos d' i (by simpa using hi)]; simp
    have e2 : d'[j]! = d'.toList[j] := by rw [getElem!_pos d' j (by simpa using hj)]; simp
    rw [e1, e2] at h1
    simp at h1
    simpa using h1
  · have hg2 : g < w'.heap.size := by
      rw [hw]; unfold Go.Proofs.sortWorldK Go.Sort.putRowK
      rw [Go.Sort.size_grow, Go.Sort.size_putRow]
      show g < w.heap.size + _
      omega
    refine gs_of_holds (by rw [Array.length_toList]; exact hd.symm) hg2 (by rw [Array.length_toList, hd]; exact hcap) ?_
    have h3 : Go.Sort.HoldsK wcL 5 (Go.Sort.putRowK wcL 5 (Go.Sort.ahead w n) g 0 d') g 0 d' := Go.Sort.holdsK_putRowK wcL 5 (Go.Sort.ahead w n) g 0 G.toArray d' hH (hp1.trans rfl)
    rw [Array.toArray_toList]
    rw [hw]
    unfold Go.Proofs.sortWorldK
    exact Go.Sort.holds_grow id _ os g 0 _ (by unfold Go.Sort.putRowK; rw [Go.Sort.size_putRow]; exact hg) h3
  · have hgr : ∀ k, k < w.heap.size → k ≠ g → w'.heap[k]? = w.heap[k]? := fun k hk hne => by
      rw [hw]
      unfold Go.Proofs.sortWorldK Go.Sort.putRowK
      rw [Go.Sort.heap_grow_old _ _ (by rw [Go.Sort.size_putRow]; exact hk)]
      have : g ≠ k := fun e => hne e.symm
      simp [Go.Sort.putRow, Go.Sort.mapBlock, Go.Sort.ahead, Array.getElem?_modify, this]
    refine ⟨by rw [hw]; rfl, by rw [hw]; rfl, by rw [hw]; rfl, ?_, fun k hk hne => hgr k hk hne⟩
    rw [hw]; unfold Go.Proofs.sortWorldK Go.Sort.putRowK
    rw [Go.Sort.size_grow, Go.Sort.size_putRow]
    show w.heap.size ≤ w.heap.size + _
    omega
end Go.Proofs.Ytofdfofpdfaimaa
