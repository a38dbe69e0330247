/- Graph: heap.Push and heap.Pop over a row of nodes in a box. -/
import Derived.Test.YtghkhceplpjegaaYg6
import Derived.Deep.RegionLaw
namespace Go.Proofs.Ytghkhceplpjegaa.Hq
open Go.RowKit Go.Sort Go.Shelf

theorem ownX {w : World} {base g n cap : Nat} {l : List Int} (h : OwnG KI w base (.slice (some ⟨g, 0, none⟩) n cap) l) : OwnG KI w g (.slice (some ⟨g, 0, none⟩) n cap) l := by
  obtain ⟨h1, h2⟩ := h
  refine ⟨h1, ?_⟩
  rcases h2 with h2 | ⟨g', cp, cur, e1, e2, e3⟩
  · exact Or.inl h2
  · have e1' := e1
    injection e1 with e1 _ _
    injection e1 with e1
    injection e1 with e1 _ _
    exact Or.inr ⟨g', cp, cur, e1', by omega, e3⟩
/-- In the box B lies a slice of its own that holds these. -/
structure RB (w : World) (base B : Nat) (v : Value) (d : Array Nat) : Prop where
  box : w.heap[B]? = some (.cells #[v] 78)
  row : OwnG KI w base v (nI d.toList)
theorem nI_size (d : Array Nat) : (nI d.toList).length = d.size := by rw [nI_len]; simp
theorem RB.nb {w : World} {base B : Nat} {v : Value} {d : Array Nat} (h : RB w base B v d) : v.ownBlock ≠ some B := h.row.notat h.box (by decide)
theorem RB.lt {w : World} {base B : Nat} {v : Value} {d : Array Nat} (h : RB w base B v d) : B < w.heap.size := lt_of_heap h.box
theorem RB.qat {w : World} {base B X n cap : Nat} {d : Array Nat} (h : RB w base B (.slice (some ⟨X, 0, none⟩) n cap) d) : n = d.size ∧ base ≤ X ∧ QAt w B 0 X cap d := by
  have e := own_len h.row
  rw [nI_size] at e
  obtain ⟨e1, e2, e3, e4⟩ := e
  subst e1
  exact ⟨rfl, e3, cell_of_row _ _ _ _ _ _ h.box, by simp [World.frozen?, h.box], ownX h.row, fun q => h.nb (by rw [q]; rfl), h.lt⟩
theorem RB.of {w w' : World} {base B X cap : Nat} {v : Value} {d d' : Array Nat} (h : RB w base B v d) (hX : base ≤ X) (hv : v = .slice (some ⟨X, 0, none⟩) d'.size cap) (q : QAt w' B 0 X cap d') (k : Keep X w w') : RB w' base B v d' :=
  ⟨by rw [k.block B h.lt q.ne]; exact h.box, by rw [hv]; exact OwnG.low q.row hX⟩
set_option maxHeartbeats 2000000 in
set_option maxRecDepth 100000 in
theorem push_any (w : World) (base B : Nat) (v : Value) (d : Array Nat) (h : RB w base B v d) (hb : base ≤ w.heap.size) (hl : d.size ≤ 100000) (x : Nat) :
    Calls Try.prog 133 #[.pointer (some ⟨B, 0, none⟩), .iface 3 (.int .i64 x)] w fun e w' => e = .returned (.tuple #[]) ∧ ∃ g cap, RB w' base B (.slice (some ⟨g, 0, none⟩) (d.size + 1) cap) (d.push x) ∧ (v.ownBlock = some g ∨ w.heap.size ≤ g) ∧ But (fun k => k = B ∨ v.ownBlock = some k) w w' := by
  have END : Hid (∀ o w3 g cap, OwnG KI w3 base (.slice (some ⟨g, 0, none⟩) ((nI d.toList).length + 1) cap) (nI d.toList ++ [(x : Int)]) → Below base (w.drew.alloc o) w3 → (∀ k, k < (w.drew.alloc o).heap.size → some k ≠ v.ownBlock → w3.heap[k]? = (w.drew.alloc o).heap[k]?) → (v.ownBlock = some g ∨ (w.drew.alloc o).heap.size ≤ g) →
      w3.cell? ⟨B, 0, none⟩ = some v ∧ w3.frozen? ⟨B, 0, none⟩ = false ∧ RB (w3.setCell ⟨B, 0, none⟩ (.slice (some ⟨g, 0, none⟩) ((nI d.toList).length + 1) cap)) base B (.slice (some ⟨g, 0, none⟩) (d.size + 1) cap) (d.push x) ∧ (v.ownBlock = some g ∨ w.heap.size ≤ g) ∧ But (fun k => k = B ∨ v.ownBlock = some k) w (w3.setCell ⟨B, 0, none⟩ (.slice (some ⟨g, 0, none⟩) ((nI d.toList).length + 1) cap))) := by
    intro o w3 g cap ho hbl hk hg
    have hs : (w.drew.alloc o).heap.size = w.heap.size + 1 := by show (w.heap.push o).size = _; simp
    have al : ∀ k, k < w.heap.size → (w.drew.alloc o).heap[k]? = w.heap[k]? := fun k hk => Below.heap_alloc w.drew o k hk
    have hB3 : w3.heap[B]? = some (.cells #[v] 78) := by
      rw [hk B (by have := h.lt; omega) (fun e => h.nb e.symm), al B h.lt]; exact h.box
    refine ⟨cell_of_row _ _ _ _ _ _ hB3, by simp [World.frozen?, hB3], ⟨?_, ?_⟩, hg.imp id (fun h => by omega), ⟨hbl.os, hbl.tape, hbl.output, ?_, fun k h1 h2 => ?_⟩⟩
    · rw [nI_size]
      exact heap_setCell_same w3 B 0 _ 78 _ hB3
    · rw [nI_size] at ho ⊢
      have e : nI (d.push x).toList = nI d.toList ++ [(x : Int)] := by rw [Array.toList_push, nI_app]; rfl
      rw [e]
      exact ho.far fun k hk2 => set_far (fun e2 => by subst e2; exact ho.notat hB3 (by decide) hk2)
    · have := hbl.size; simp [World.setCell]; omega
    · rw [set_far (fun e => h2 (Or.inl e)), hk k (by omega) (fun e => h2 (Or.inr e.symm)), al k h1]
  have HS : Hid (∀ o, OwnG KI (w.drew.alloc o) base v (nI d.toList)) := fun o => h.row.far fun g hg => Below.heap_alloc w.drew o g (h.row.lt hg).2
  have HX : Hid (∀ o, base ≤ (w.drew.alloc o).heap.size) := fun o => by show base ≤ (w.heap.push o).size; simp; omega
  have HN : Hid (∀ o, (w.drew.alloc o).heap[w.heap.size]? = some o) := fun o => heap_alloc_new w.drew o
  have hc : w.cell? ⟨B, 0, none⟩ = some v := cell_of_row _ _ _ _ _ _ h.box
  have hlt := h.lt
  have HL : Hid (((nI d.toList).length + 1) * KI.B ≤ 140737488355328) := by show (_ + 1) * 8 ≤ _; rw [nI_size]; omega
  have ta : ∀ (u : Value) (w : World), Sem.run Try.prog (Instr.typeAssert (.iface 3 u) 20 3 false) w = .ok u w := fun u w => by
    have hu : Try.prog.underlying 3 = some _ := Try.underlying3
    simp [Instr.typeAssert, run_underlying hu]
  clear h
  go_enter Try.func133, Try.ntmps133
  go_region_law (refine step_append_g KI KI_ok (by rfl) (.tmp 7) (.tmp 10) 78 (by rfl) base Try.underlying78 _ w.heap.size #[.int .i64 x] 3 (HN.out _) v (nI d.toList) (x : Int) _ (by rfl) (HS.out _) (by rfl) (by rfl) HL.out (HX.out _) ?_; intro g cap w3 ho3 hb3 hk3 hg3; have E3 := END.out _ w3 g cap ho3 hb3 hk3 hg3; obtain ⟨hc3, hf3, hr3⟩ := E3)
  all_goals (try go_wp2)
  all_goals go_end0
  all_goals exact ⟨rfl, g, cap, hr3⟩
theorem Row.pop {w : World} {X cap : Nat} {d : Array Nat} (h : Row w X cap d) : Row w X cap d.pop := by
  have hb := h.bound.1
  have := OwnG.cut KI_ok.len h (d.size - 1) (by rw [nI_size]; omega)
  unfold Row
  rw [Array.size_pop]
  have e : nI d.pop.toList = (nI d.toList).take (d.size - 1) := by
    rw [Array.toList_pop, List.dropLast_eq_take]
    unfold nI
    rw [List.map_take]
    simp
  rw [e]
  exact this
set_option maxHeartbeats 2000000 in
set_option maxRecDepth 100000 in
theorem pop_any (w : World) (B X cap : Nat) (d : Array Nat) (h : QAt w B 0 X cap d) (hbx : w.heap[B]? = some (.cells #[.slice (some ⟨X, 0, none⟩) d.size cap] 78)) (n : Nat) (hn : d.size = n + 1) :
    Calls Try.prog 132 #[.pointer (some ⟨B, 0, none⟩)] w fun e w' => e = .returned (.iface 3 (.int .i64 (d[n]! : Nat))) ∧ w'.heap[B]? = some (.cells #[.slice (some ⟨X, 0, none⟩) n cap] 78) ∧ Row w' X cap d.pop ∧ But (fun k => k = B) w w' := by
  have c1 := h.row.cells (i := n) (by omega)
  have hc := h.head
  have hf := h.free
  have hb := h.row.bound
  unfold maxLen at hb
  have hb1 := hb.1
  have hb2 := hb.2
  have hlt := h.lt
  have hxl := h.row.lt
  rw [hn] at hc hb1
  have END : Hid (∀ w2, But (fun k => k = B) w w2 → w2.heap[B]? = some (.cells #[.slice (some ⟨X, 0, none⟩) n cap] 78) → w2.heap[B]? = some (.cells #[.slice (some ⟨X, 0, none⟩) n cap] 78) ∧ Row w2 X cap d.pop ∧ But (fun k => k = B) w w2) := fun w2 k e => ⟨e, h.row.pop.keep (k.block X hxl (fun q => h.ne q.symm)), k⟩
  have HB : Hid ((w.setCell ⟨B, 0, none⟩ (.slice (some ⟨X, 0, none⟩) n cap)).heap[B]? = some (.cells #[.slice (some ⟨X, 0, none⟩) n cap] 78) ∧ But (fun k => k = B) w (w.setCell ⟨B, 0, none⟩ (.slice (some ⟨X, 0, none⟩) n cap))) := ⟨heap_setCell_same w B 0 _ 78 _ hbx, But.set B 0 _⟩
  have HA := hid (fun o => END.out ((w.setCell ⟨B, 0, none⟩ (.slice (some ⟨X, 0, none⟩) n cap)).alloc o) (HB.out.2.trans (But.of_below (F := fun k => k = B) (bal _ _)) (fun _ h => Or.inl h)) ((Below.heap_alloc _ _ _ (by simpa [World.setCell] using hlt)).trans HB.out.1))
  generalize d[n]! = t at *
  generalize d.pop = D at *
  clear h hb hbx
  go_enter Try.func132, Try.ntmps132
  go_wp2
  go_ret
  first | exact ⟨rfl, HA.out _⟩ | exact ⟨rfl, END.out _ HB.out.2 HB.out.1⟩
set_option maxHeartbeats 2000000 in
set_option maxRecDepth 100000 in
theorem heapPush_any (w : World) (base B : Nat) (v : Value) (d : Array Nat) (h : RB w base B v d) (hb : base ≤ w.heap.size) (hl : d.size ≤ 100000) (hh : Heap nlt d.size d) (x : Nat) :
    Calls Try.prog 59 #[.iface 80 (.pointer (some ⟨B, 0, none⟩)), .iface 3 (.int .i64 x)] w fun e w' => e = .returned (.tuple #[]) ∧ ∃ g cap d', RB w' base B (.slice (some ⟨g, 0, none⟩) (d.size + 1) cap) d' ∧ d'.size = d.size + 1 ∧ Heap nlt d'.size d' ∧ d'.toList.Perm (x :: d.toList) ∧ (v.ownBlock = some g ∨ w.heap.size ≤ g) ∧ But (fun k => k = B ∨ v.ownBlock = some k) w w' := by
  have eN := ent_len
  have eP := ent_push
  have mP := inv_push
  have P1 := push_any w base B v d h hb hl x
  have FIN : Hid (∀ w1 w' g cap, RB w1 base B (.slice (some ⟨g, 0, none⟩) (d.size + 1) cap) (d.push x) → (v.ownBlock = some g ∨ w.heap.size ≤ g) → But (fun k => k = B ∨ v.ownBlock = some k) w w1 → QAt w' B 0 g cap (hUp nlt d.size (d.push x)) → Keep g w1 w' → ∃ g cap d', RB w' base B (.slice (some ⟨g, 0, none⟩) (d.size + 1) cap) d' ∧ d'.size = d.size + 1 ∧ Heap nlt d'.size d' ∧ d'.toList.Perm (x :: d.toList) ∧ (v.ownBlock = some g ∨ w.heap.size ≤ g) ∧ But (fun k => k = B ∨ v.ownBlock = some k) w w') := by
    intro w1 w' g cap r1 hg k1 q k2
    have hs : (hUp nlt d.size (d.push x)).size = d.size + 1 := by rw [hUp_size]; simp
    have pg : ∀ k, k < d.size → (d.push x)[k]! = d[k]! := fun k hk => by rw [getElem!_pos _ k (by simp; omega), getElem!_pos d k hk, Array.getElem_push_lt hk]
    refine ⟨g, cap, _, r1.of (r1.row.lt (g := g) rfl).1 (by rw [hs]) q k2, hs, ?_, ?_, hg, k1.trans k2.but (fun k e => ?_)⟩
    · rw [hs]
      refine heap_up nlt_swo (d.size + 1) d.size (d.push x) (by omega) (by simp) ⟨fun k hk hkn hne => ?_, fun k hk hkn he h0 => by omega⟩
      rw [pg k (by omega), pg _ (by omega)]
      exact hh k hk (by omega)
    · refine (hUp_perm d.size (d.push x) (by simp)).trans ?_
      rw [Array.toList_push]
      exact List.perm_append_singleton _ _
    · subst e
      rcases hg with e | e
      · exact Or.inl (Or.inr e)
      · exact Or.inr e
  clear h hh
  go_enter Try.func59, Try.ntmps59
  go_wp2_with (first | (go_at_fn 60; refine (len_any _ _ _ _).mono ?_; rintro e w' ⟨rfl, rfl⟩) | (go_at_fn 133; refine P1.mono ?_; rintro e w1 ⟨rfl, g, cap, r1, hg, hk1⟩; have R1 := hid r1; have hq1 := hid (by have := r1.qat; exact this.2.2 : QAt w1 B 0 g cap (d.push x)); have mN := inv_len hq1.out.head; rw [Array.size_push] at mN; clear r1) | (go_at_call 76; refine (up_any _ _ _ _ _ _ hq1.out d.size (by simp) (by unfold maxLen; simp; omega) _ (by omega)).mono ?_; rintro e w' ⟨rfl, hq3, hk3⟩))
  go_end0
  exact ⟨rfl, FIN.out _ _ _ _ R1.out hg hk1 hq3 hk3⟩
set_option maxHeartbeats 4000000 in
set_option maxRecDepth 100000 in
theorem heapPop_any (w : World) (base B X cap : Nat) (d : Array Nat) (h : RB w base B (.slice (some ⟨X, 0, none⟩) d.size cap) d) (hm : d.size ≤ 100000) (hh : Heap nlt d.size d) (n : Nat) (hn : d.size = n + 1) :
    Calls Try.prog 61 #[.iface 80 (.pointer (some ⟨B, 0, none⟩))] w fun e w' => ∃ x d', e = .returned (.iface 3 (.int .i64 (x : Nat))) ∧ RB w' base B (.slice (some ⟨X, 0, none⟩) n cap) d' ∧ d'.size = n ∧ Heap nlt d'.size d' ∧ d.toList.Perm (x :: d'.toList) ∧ (∀ y ∈ d'.toList, x ≤ y) ∧ But (fun k => k = B ∨ k = X) w w' := by
  obtain ⟨_, hX, HQ0⟩ := h.qat
  have eN := ent_len
  have mN := inv_len HQ0.head
  have eS := ent_swap
  have mS := inv_swap HQ0.head
  have eP := ent_pop
  have mP := inv_pop
  rw [hn] at mN mS
  have S := HQ0.swapC hn 0 n (by omega) (by omega) (x := 0) (y := n) rfl rfl
  have D := hid (fun w' (hq : QAt w' B 0 X cap (swp d 0 n)) => down_any w' B 0 X cap (swp d 0 n) hq 0 n (by rw [size_swp]; omega) (by omega) (by rw [size_swp]; omega) 0 n rfl rfl)
  have FIN : Hid (∀ w1 w2 w', QAt w1 B 0 X cap (swp d 0 n) → Keep X w w1 → QAt w2 B 0 X cap (hDown nlt n 0 (swp d 0 n)).2 → Keep X w1 w2 → w'.heap[B]? = some (.cells #[.slice (some ⟨X, 0, none⟩) n cap] 78) → Row w' X cap (hDown nlt n 0 (swp d 0 n)).2.pop → But (fun k => k = B) w2 w' → ∃ x d', (Ending.returned (.iface 3 (.int .i64 ((hDown nlt n 0 (swp d 0 n)).2[n]! : Nat))) : Ending) = .returned (.iface 3 (.int .i64 (x : Nat))) ∧ RB w' base B (.slice (some ⟨X, 0, none⟩) n cap) d' ∧ d'.size = n ∧ Heap nlt d'.size d' ∧ d.toList.Perm (x :: d'.toList) ∧ (∀ y ∈ d'.toList, x ≤ y) ∧ But (fun k => k = B ∨ k = X) w w') := by
    intro w1 w2 w' q1 k1 q2 k2 e3 r3 k3
    obtain ⟨a1, a2, a3, _, _⟩ := hDown_all (lt := nlt) (n - 0) n 0 (swp d 0 n) (Nat.le_refl _) (by rw [size_swp]; omega)
    rw [size_swp] at a1
    have g := swp_get d (i := 0) (j := n) (by omega) (by omega)
    have ps : (hDown nlt n 0 (swp d 0 n)).2.pop.size = n := by simp [a1, hn]
    have e0 : (hDown nlt n 0 (swp d 0 n)).2[n]! = d[0]! := by rw [a3 n (Nat.le_refl _), g n, if_pos rfl]
    have hdn : HeapDn nlt n (swp d 0 n) 0 := by
      refine ⟨fun k hk hkn e1 e2 => ?_, fun k hk hkn e1 h0 => by omega⟩
      rw [g k, g ((k - 1) / 2), if_neg (by omega), if_neg e2, if_neg (by omega), if_neg e1]
      exact hh k hk (by omega)
    have hp := heap_down nlt_swo n (n - 0) 0 (swp d 0 n) (Nat.le_refl _) (by rw [size_swp]; omega) hdn (fun h0 => by omega)
    have popg : ∀ k, k < n → (hDown nlt n 0 (swp d 0 n)).2.pop[k]! = (hDown nlt n 0 (swp d 0 n)).2[k]! := fun k hk => by
      rw [getElem!_pos _ k (by omega), getElem!_pos _ k (by omega)]; simp
    have perm : d.toList.Perm (d[0]! :: (hDown nlt n 0 (swp d 0 n)).2.pop.toList) := by
      have p1 : (hDown nlt n 0 (swp d 0 n)).2.toList = (hDown nlt n 0 (swp d 0 n)).2.pop.toList ++ [(hDown nlt n 0 (swp d 0 n)).2[n]!] := by
        rw [Array.toList_pop, getElem!_pos _ n (by omega)]
        have hne : (hDown nlt n 0 (swp d 0 n)).2.toList ≠ [] := by intro h; have h2 := congrArg List.length h; rw [Array.length_toList, List.length_nil] at h2; omega
        have := List.dropLast_concat_getLast hne
        rw [List.getLast_eq_getElem] at this
        simpa [a1, hn] using this.symm
      rw [e0] at p1
      exact ((swp_perm d (by omega) (by omega)).symm.trans a2.symm).trans (by rw [p1]; exact List.perm_append_singleton _ _)
    refine ⟨d[0]!, _, by rw [e0], ⟨e3, by have := OwnG.low r3 hX; rw [ps] at this; exact this⟩, ps, ?_, perm, fun y hy => ?_, ?_⟩
    · rw [ps]
      intro k hk hkn
      rw [popg k hkn, popg _ (by omega)]
      exact hp k hk hkn
    · have hy2 : y ∈ d.toList := perm.mem_iff.2 (.tail _ hy)
      obtain ⟨i, hi, e⟩ := List.mem_iff_getElem.1 hy2
      have hi2 : i < d.size := by simpa using hi
      have := heap_front nlt_swo d.size d hh i hi2
      rw [get!_list d i hi2, e] at this
      simpa [nlt] using this
    · have kk := k1.trans k2
      exact ⟨k3.os.trans kk.os, k3.tape.trans kk.tape, k3.output.trans kk.output, Nat.le_trans kk.size k3.size, fun k hk hne => (k3.block k (Nat.lt_of_lt_of_le hk kk.size) (fun e => hne (Or.inl e))).trans (kk.block k hk (fun e => hne (Or.inr e)))⟩
  have hsz : (hDown nlt n 0 (swp d 0 n)).2.size = n + 1 := by
    have := (hDown_all (lt := nlt) (n - 0) n 0 (swp d 0 n) (Nat.le_refl _) (by rw [size_swp]; omega)).1
    rw [this, size_swp]; exact hn
  have HBX : Hid (∀ w1 w2, Keep X w w1 → Keep X w1 w2 → w2.heap[B]? = some (.cells #[.slice (some ⟨X, 0, none⟩) (hDown nlt n 0 (swp d 0 n)).2.size cap] 78)) := fun w1 w2 k1 k2 => by
    rw [(k1.trans k2).block B h.lt HQ0.ne, h.box, hsz, hn]
  have HQ : Hid _ := HQ0
  obtain ⟨t, ht⟩ : ∃ t, t = (hDown nlt n 0 (swp d 0 n)).2[n]! := ⟨_, rfl⟩
  rw [← ht] at FIN
  have PP := hid (fun w2 (q : QAt w2 B 0 X cap (hDown nlt n 0 (swp d 0 n)).2) e => by have := pop_any w2 B X cap _ q e n hsz; rw [← ht] at this; exact this)
  clear h HQ0 hh ht
  go_enter Try.func61, Try.ntmps61
  go_wp2_with (first | (go_at_fn 60; refine (len_any _ _ _ _).mono ?_; rintro e w' ⟨rfl, rfl⟩) | (go_at_fn 131; refine S.mono ?_; rintro e w1 ⟨rfl, hq1, hk1⟩) | (go_at_call 77; refine (D.out _ hq1).mono ?_; rintro e w2 ⟨rfl, hq2, hk2⟩) | (go_at_fn 132; refine (PP.out _ hq2 (HBX.out _ _ hk1 hk2)).mono ?_; rintro e w' ⟨rfl, e3, r3, k3⟩))
  go_ret
  exact FIN.out _ _ _ hq1 hk1 hq2 hk2 e3 r3 k3
end Go.Proofs.Ytghkhceplpjegaa.Hq
