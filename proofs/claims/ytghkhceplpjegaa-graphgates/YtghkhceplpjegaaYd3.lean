/- Graph: same of two that are the same; turned. -/
import Derived.Test.YtghkhceplpjegaaYd2
namespace Go.Proofs.Ytghkhceplpjegaa
open Go.RowKit

set_option maxHeartbeats 8000000 in
theorem same_same (w : World) (n : Int) (v u : Value) (l : List (Int × Int)) (hv : GS KE w v l) (hu : GS KE w u l) (HL : l.length ≤ 140737488355328) : Calls Try.prog 14 #[.agg #[.int .i64 n, v], .agg #[.int .i64 n, u]] w fun e w' => e = .returned (.bool true) ∧ Below w.heap.size w w' := by
  obtain ⟨p, c, rfl⟩ := hv.form
  obtain ⟨q, d, rfl⟩ := hu.form
  have A1 := hid (fun w' (hb : Below w.heap.size w w') j (hj : j < l.length) => GS.atE (hv.below hb) hj)
  have A2 := hid (fun w' (hb : Below w.heap.size w w') j (hj : j < l.length) => GS.atE (hu.below hb) hj)
  obtain ⟨m, hm⟩ : ∃ m, m = l.length := ⟨_, rfl⟩
  rw [← hm]
  rw [← hm] at HL
  have M1 : Hid (l.length = m) := hm.symm
  clear hm hv hu
  generalize hW : (w.alloc (.cells #[.int .i64 n, .slice p m c] 24)).alloc (.cells #[.int .i64 n, .slice q m d] 24) = W
  have BW : Hid (Below w.heap.size w W) := by rw [← hW]; exact bl3 (bal _ _) (bal _ _)
  have C0 : Hid (∀ W', Below W.heap.size W W' → (W'.cell? ⟨w.heap.size, 0, none⟩ = some (.int .i64 n) ∧ W'.cell? ⟨w.heap.size, 1, none⟩ = some (.slice p m c)) ∧ W'.cell? ⟨w.heap.size + 1, 0, none⟩ = some (.int .i64 n) ∧ W'.cell? ⟨w.heap.size + 1, 1, none⟩ = some (.slice q m d)) := fun W' hb => by
    have hs : W.heap.size = w.heap.size + 2 := by rw [← hW, asz, asz]
    have e0 : W'.heap[w.heap.size]? = some (.cells #[.int .i64 n, .slice p m c] 24) := (hb.block _ (by omega)).trans (by rw [← hW, Below.heap_alloc _ _ _ (by rw [asz]; omega)]; exact heap_alloc_new _ _)
    have e1 : W'.heap[w.heap.size + 1]? = some (.cells #[.int .i64 n, .slice q m d] 24) := (hb.block _ (by omega)).trans (by
      have := heap_alloc_new (w.alloc (.cells #[.int .i64 n, .slice p m c] 24)) (.cells #[.int .i64 n, .slice q m d] 24)
      rw [asz] at this
      rw [← hW]; exact this)
    exact ⟨⟨cell_of_row _ _ _ _ _ _ e0, cell_of_row _ _ _ _ _ _ e0⟩, cell_of_row _ _ _ _ _ _ e1, cell_of_row _ _ _ _ _ _ e1⟩
  obtain ⟨⟨d0, d1⟩, d2, d3⟩ := C0.out W (Below.refl _ _)
  have BI := hid (Below.refl W.heap.size W)
  go_enter Try.func14, Try.ntmps14
  go_wp2
  clear hW d0 d1 d2 d3
  obtain ⟨sz, hsz⟩ : ∃ sz, sz = w.heap.size := ⟨_, rfl⟩
  rw [← hsz] at C0 ⊢
  clear hsz
  go_loopw [5] (fun v5 wr => ∃ (j : Nat) (wk : World), v5 = .int .i64 j ∧ wk = wr ∧ j ≤ m ∧ Hid (Below W.heap.size W wk)) (fun v5 _ => m - (intOf v5).toNat)
  case atStart => exact ⟨0, _, rfl, rfl, Nat.zero_le _, BI⟩
  case round =>
    obtain ⟨j, wr, rfl, rfl, hj, HB⟩ := hrel
    clear BI
    obtain ⟨⟨d0, d1⟩, d2, d3⟩ := C0.out wr HB.out
    by_cases hlt : j < m
    · have j1 : j < l.length := by have := M1.out; omega
      obtain ⟨X, o, e1, _, c1, c2⟩ := A1.out wr (bl3 BW.out HB.out) j j1
      obtain ⟨Y, o2, e2, _, c3, c4⟩ := A2.out wr (bl3 BW.out HB.out) j j1
      subst e1 e2
      generalize l[j].1 = x at *
      generalize l[j].2 = y at *
      have hji : (j : Int) < (m : Nat) := by omega
      go_wp2
      go_quiet (fail)
      go_wp2
      all_goals
        go_roundw
        case rel => exact ⟨j + 1, _, by go_num, rfl, by omega, bl3 HB.out (drew_below _ _)⟩
        case measure => simp [intOf]; omega
    · obtain rfl : j = m := by omega
      go_wp2
      go_ret
      exact ⟨rfl, bl3 BW.out HB.out⟩
theorem flat_repW {α : Type} (f : α → List Value) (x : α) : ∀ n : Nat, (List.replicate n x).flatMap f = (List.replicate n (f x)).flatten
  | 0 => rfl
  | n + 1 => by rw [List.replicate_succ, List.replicate_succ, List.flatMap_cons, List.flatten_cons, flat_repW f x n]
theorem made_w (z : Array Value) (hz : 0 < z.size) : ∀ n : Nat, (madeCells z (n * z.size)).toList = (List.replicate n z.toList).flatten
  | 0 => by simp [madeCells]
  | n + 1 => by
    have ih := made_w z hz n
    have e : ∀ m, (madeCells z m).toList = (List.range m).map (fun i => z[i % z.size]!) := fun m => by simp [madeCells]
    rw [e] at ih ⊢
    rw [Nat.add_mul, Nat.one_mul, List.range_add, List.map_append, ih, List.replicate_succ', List.flatten_append]
    congr 1
    rw [List.map_map]
    refine List.ext_getElem (by simp) (fun i h1 h2 => ?_)
    have hi : i < z.size := by simpa using h1
    simp [Nat.mod_eq_of_lt hi, hi, Nat.add_mod, Nat.mul_mod_left]
theorem step_make_w {α : Type} {P : Program} (K : RK α) (hk : K.Ok P) (x0 : α) (hz : K.z.cells.toList = K.f x0) (w : World) {ops : Array Oper} {o : Oper} {a : Act} {C : Act → World → Prop} {Q : Exit → Act → World → Prop} {E : Prop}
    (hg : o.guard = none) (l c : Operand) (t : TypeId) (hop : o.op = Op.makeSlice t l c) (ht : P.underlying t = some (.slice K.ty))
    (n : Nat) (hl : a.eval l = .int .i64 n) (hc : a.eval c = .int .i64 n) (hn : n ≤ 100000) (hB : K.B ≤ 1000)
    (hK : ∀ w', OwnG K w' w.heap.size (.slice (some ⟨w.heap.size, 0, none⟩) n n) (List.replicate n x0) → Below w.heap.size w w' → C (a.put o.dst (.slice (some ⟨w.heap.size, 0, none⟩) n n)) w') : if Region.wanted o (yielded ops a.tmps) = true then Oper.wp P o a w C Q else E := by
  obtain ⟨i0, hi0, hz0, hz1, hz2⟩ := hk.info
  have hmul : K.B * n ≤ 1000 * 100000 := Nat.mul_le_mul hB hn
  have hw : Region.wanted o (yielded ops a.tmps) = true := by simp [Region.wanted, hg]
  rw [if_pos hw]
  obtain ⟨w', hrun, r1, r2⟩ := run_make_full (P := P) w w.heap.size t K.ty i0 K.z K.W ht hi0 hz0 hz1 .i64 .i64 n (by rw [hz2]; omega) (by unfold maxLen; omega) (Nat.le_refl _)
  unfold Oper.wp
  simp [execOp, hop, hl, hc, hrun, Result.andThen]
  refine hK w' ?_ ((Below.refl _ _).grown r2 (Nat.le_refl _) (fun k hk => by cases hk))
  unfold OwnG
  rw [List.length_replicate]
  have hsz : K.z.cells.size = K.W := by rw [← hk.len x0, ← hz]; simp
  have := made_w K.z.cells (by rw [hsz]; exact hk.pos) n
  rw [hsz, hz] at this
  rw [flat_repW, ← this]
  exact r1
theorem OwnG.setW {α : Type} {K : RK α} (hf : ∀ x, (K.f x).length = K.W) {w : World} {base g n cap : Nat} {l : List α} (h : OwnG K w base (.slice (some ⟨g, 0, none⟩) n cap) l) {k j : Nat} (hk : k < l.length) (hj : j < K.W) (x : α) (u : Value) (hu : K.f x = (K.f l[k]).set j u) : OwnG K (w.setCell ⟨g, k * K.W + j, none⟩ u) base (.slice (some ⟨g, 0, none⟩) n cap) (l.set k x) := by
  obtain ⟨h1, h2⟩ := h
  rcases h2 with ⟨h2, _⟩ | ⟨g', cp, cur, e1, e2, e3, e4, e5, e6, e7⟩
  · cases h2
  · injection e1 with e1 e8 e9
    injection e1 with e1
    injection e1 with e1 _ _
    subst e1 e9
    refine ⟨RK.flat_len hf _, Or.inr ⟨g, cap, cur.setIfInBounds (k * K.W + j) u, by rw [List.length_set, e8], e2, heap_setCell_same w g _ cur _ _ e3, by rw [List.length_set]; exact e4, e5, by simpa using e6, ?_⟩⟩
    have fl : ∀ (l : List α) (k : Nat) (hk : k < l.length), K.f x = (K.f l[k]).set j u → (l.set k x).flatMap K.f = (l.flatMap K.f).set (k * K.W + j) u := fun l => by
      induction l with
      | nil => intro k hk; simp at hk
      | cons y r ih =>
        intro k hk hx
        cases k with
        | zero =>
          rw [List.set_cons_zero, List.flatMap_cons, List.flatMap_cons, Nat.zero_mul, Nat.zero_add, List.set_append_left _ _ (by rw [hf]; exact hj)]
          rw [hx]; rfl
        | succ k =>
          rw [List.set_cons_succ, List.flatMap_cons, List.flatMap_cons, ih k (by simpa using hk) hx, List.set_append_right _ _ (by rw [hf, Nat.add_mul]; omega), hf]
          congr 2
          rw [Nat.add_mul]; omega
    rw [List.length_set, fl l k hk hu, ← e7]
    simp [Array.toList_setIfInBounds, List.take_set]
theorem OwnG.setE {w : World} {base g n cap : Nat} {l : List (Int × Int)} (h : OwnG KE w base (.slice (some ⟨g, 0, none⟩) n cap) l) {k : Nat} (hk : k < l.length) (x : Int × Int) : OwnG KE ((w.setCell ⟨g, k * 2, none⟩ (.int .i64 x.1)).setCell ⟨g, k * 2 + 1, none⟩ (.int .i64 x.2)) base (.slice (some ⟨g, 0, none⟩) n cap) (l.set k x) := by
  have h1 := OwnG.setW KE_ok.len h hk (j := 0) (by decide) (x.1, l[k].2) (.int .i64 x.1) rfl
  have h2 := OwnG.setW KE_ok.len h1 (k := k) (j := 1) (by rw [List.length_set]; exact hk) (by decide) x (.int .i64 x.2) (by simp [KE])
  rw [List.set_set] at h2
  exact h2
/-- An edge the other way round. -/
def swE (x : Int × Int) : Int × Int := (x.2, x.1)
def twL (l : List (Int × Int)) (j : Nat) : List (Int × Int) := (l.take j).map swE ++ List.replicate (l.length - j) (0, 0)
theorem twL_len {l : List (Int × Int)} {j : Nat} (hj : j ≤ l.length) : (twL l j).length = l.length := by unfold twL; simp; omega
theorem twL_set {l : List (Int × Int)} {j : Nat} (hj : j < l.length) : (twL l j).set j (swE l[j]) = twL l (j + 1) := by
  unfold twL
  have e1 : ((l.take j).map swE).length = j := by simp; omega
  have e2 : l.length - j = (l.length - (j + 1)) + 1 := by omega
  rw [List.set_append_right _ _ (by omega), e1, Nat.sub_self, e2, List.replicate_succ, List.set_cons_zero, List.take_succ_eq_append_getElem hj, List.map_append]
  simp
theorem twL_end (l : List (Int × Int)) : twL l l.length = l.map swE := by unfold twL; simp
/-- turned's boxes and its row. -/
structure TQ (W : World) (n : Int) (m bb rb : Nat) (L : List (Int × Int)) (wk : World) : Prop where
  bl : Below W.heap.size W wk
  bx : wk.heap[bb]? = some (.cells #[.int .i64 n, .slice (some ⟨rb, 0, none⟩) m m] 24)
  ow : OwnG KE wk W.heap.size (.slice (some ⟨rb, 0, none⟩) m m) L
  ge : W.heap.size ≤ bb
theorem TQ.below {W : World} {n : Int} {m bb rb : Nat} {L : List (Int × Int)} {wk w2 : World} (h : TQ W n m bb rb L wk) (k : Below wk.heap.size wk w2) : TQ W n m bb rb L w2 := ⟨bl3 h.bl k, (k.block _ (lt_of_heap h.bx)).trans h.bx, h.ow.below k, h.ge⟩
theorem TQ.put {W : World} {n : Int} {m bb rb : Nat} {L : List (Int × Int)} {wk : World} (h : TQ W n m bb rb L wk) {j : Nat} (hj : j < L.length) (x : Int × Int) : TQ W n m bb rb (L.set j x) ((wk.setCell ⟨rb, j * 2, none⟩ (.int .i64 x.1)).setCell ⟨rb, j * 2 + 1, none⟩ (.int .i64 x.2)) := by
  have hr := h.ow.lt (g := rb) rfl
  have hne : bb ≠ rb := fun e => h.ow.notat h.bx (by decide) (by rw [e]; rfl)
  exact ⟨Below.setCell (p := ⟨rb, j * 2 + 1, none⟩) (Below.setCell (p := ⟨rb, j * 2, none⟩) h.bl hr.1 _) hr.1 _, by rw [set_far hne, set_far hne]; exact h.bx, h.ow.setE hj x, h.ge⟩
set_option maxRecDepth 100000 in
set_option maxHeartbeats 16000000 in
theorem turned_any (w : World) (n : Int) (v : Value) (l : List (Int × Int)) (hv : GS KE w v l) (hl : l.length ≤ 16384) : Calls Try.prog 54 #[.agg #[.int .i64 n, v]] w fun e w' => ∃ p c, e = .returned (.agg #[.int .i64 n, .slice p l.length c]) ∧ OwnG KE w' w.heap.size (.slice p l.length c) (l.map swE) ∧ Below w.heap.size w w' := by
  obtain ⟨p, c, rfl⟩ := hv.form
  have A1 := hid (fun w' (hb : Below w.heap.size w w') j (hj : j < l.length) => GS.atE (hv.below hb) hj)
  obtain ⟨m, hm⟩ : ∃ m, m = l.length := ⟨_, rfl⟩
  rw [← hm]
  rw [← hm] at hl
  have M1 : Hid (l.length = m) := hm.symm
  clear hm hv
  generalize hW : (w.alloc (.cells #[.int .i64 n, .slice p m c] 24)).alloc (.cells #[.int .i64 0, .slice none 0 0] 24) = W
  have BW : Hid (Below w.heap.size w W) := by rw [← hW]; exact bl3 (bal _ _) (bal _ _)
  have SW : Hid (W.heap.size = w.heap.size + 2) := by show _ = _; rw [← hW, asz, asz]
  have HB : Hid (∀ W', Below W.heap.size W W' → W'.heap[w.heap.size]? = some (.cells #[.int .i64 n, .slice p m c] 24) ∧ W'.heap[w.heap.size + 1]? = some (.cells #[.int .i64 0, .slice none 0 0] 24)) := fun W' hb => by
    have hs := SW.out
    refine ⟨(hb.block _ (by omega)).trans (by rw [← hW, Below.heap_alloc _ _ _ (by rw [asz]; omega)]; exact heap_alloc_new _ _), (hb.block _ (by omega)).trans ?_⟩
    have := heap_alloc_new (w.alloc (.cells #[.int .i64 n, .slice p m c] 24)) (.cells #[.int .i64 0, .slice none 0 0] 24)
    rw [asz] at this
    rw [← hW]; exact this
  have C0 : Hid (∀ W', Below W.heap.size W W' → W'.cell? ⟨w.heap.size, 0, none⟩ = some (.int .i64 n) ∧ W'.cell? ⟨w.heap.size, 1, none⟩ = some (.slice p m c)) := fun W' hb => ⟨cell_of_row _ _ _ _ _ _ (HB.out W' hb).1, cell_of_row _ _ _ _ _ _ (HB.out W' hb).1⟩
  have TE : Hid (List.replicate m ((0, 0) : Int × Int) = twL l 0) := by show _ = _; unfold twL; rw [M1.out]; simp
  go_enter Try.func54, Try.ntmps54
  go_upto_region 1 with fail
  try rw [hW]
  clear hW
  obtain ⟨sz, hsz⟩ : ∃ sz, sz = w.heap.size := ⟨_, rfl⟩
  rw [← hsz] at C0 HB SW ⊢
  have HZ := hid hsz
  clear hsz
  have BD : Hid (Below W.heap.size W W.drew) := drew_below W 1
  go_cut [3] from 6 (fun v3 wx => ∃ (bb rb : Nat) (wk : World), v3 = .pointer (some ⟨bb, 0, none⟩) ∧ wk = wx ∧ Hid (TQ W n m bb rb (twL l 0) wk))
  case first =>
    refine wp_region_held_drew (S := (fun w' => w'.cell? ⟨sz, 0, none⟩ = some (.int .i64 n) ∧ w'.cell? ⟨sz, 1, none⟩ = some (.slice p m c))) (by kernel_rfl) ?_ (fun hHeld => ?_)
    · exact C0.out _ BD.out
    refine wpAnyH_take (i := 0) (oi := { dst := some 6, op := Op.fieldAddr 24 (Operand.tmp 1) 0, type := 0, pos := "lanes.go:28", after := #[], guard := none }) (v := ?_) rfl (by kernel_rfl) (by kernel_rfl) (by kernel_rfl) (fun _ _ _ h => h) (Or.inl ⟨by rfl, ?_⟩) (by assumption) ?_
    rotate_left
    · intro w hSw
      try dsimp only at hSw
      go_simp
      try with_reducible rfl
    try simp only [Act.put, List.setIfInBounds_toArray, List.set_cons_zero, List.set_cons_succ]
    refine wpAnyH_take (i := 1) (oi := { dst := some 7, op := Op.load 3 (Operand.tmp 6), type := 3, pos := "lanes.go:28", after := #[{ on := 0, ground := Ground.data }], guard := none }) (v := ?_) rfl (by kernel_rfl) (by kernel_rfl) (by kernel_rfl) (fun _ _ _ h => h) (Or.inl ⟨by rfl, ?_⟩) (by assumption) ?_
    rotate_left
    · intro w hSw
      try dsimp only at hSw
      go_simp
      try with_reducible rfl
    try simp only [Act.put, List.setIfInBounds_toArray, List.set_cons_zero, List.set_cons_succ]
    refine wpAnyH_take (i := 2) (oi := { dst := some 8, op := Op.fieldAddr 24 (Operand.tmp 1) 1, type := 0, pos := "lanes.go:28", after := #[], guard := none }) (v := ?_) rfl (by kernel_rfl) (by kernel_rfl) (by kernel_rfl) (fun _ _ _ h => h) (Or.inl ⟨by rfl, ?_⟩) (by assumption) ?_
    rotate_left
    · intro w hSw
      try dsimp only at hSw
      go_simp
      try with_reducible rfl
    try simp only [Act.put, List.setIfInBounds_toArray, List.set_cons_zero, List.set_cons_succ]
    refine wpAnyH_take (i := 3) (oi := { dst := some 9, op := Op.load 22 (Operand.tmp 8), type := 22, pos := "lanes.go:28", after := #[{ on := 2, ground := Ground.data }], guard := none }) (v := ?_) rfl (by kernel_rfl) (by kernel_rfl) (by kernel_rfl) (fun _ _ _ h => h) (Or.inl ⟨by rfl, ?_⟩) (by assumption) ?_
    rotate_left
    · intro w hSw
      try dsimp only at hSw
      go_simp
      try with_reducible rfl
    try simp only [Act.put, List.setIfInBounds_toArray, List.set_cons_zero, List.set_cons_succ]
    refine wpAnyH_take (i := 4) (oi := { dst := some 10, op := Op.call { callee := Callee.builtin Builtin.len, args := #[Operand.tmp 9], argTypes := #[22] }, type := 3, pos := "lanes.go:28", after := #[{ on := 3, ground := Ground.data }], guard := none }) (v := ?_) rfl (by kernel_rfl) (by kernel_rfl) (by kernel_rfl) (fun _ _ _ h => h) (Or.inl ⟨by rfl, ?_⟩) (by assumption) ?_
    rotate_left
    · intro w hSw
      try dsimp only at hSw
      go_simp
      try with_reducible rfl
    try simp only [Act.put, List.setIfInBounds_toArray, List.set_cons_zero, List.set_cons_succ]
    refine wpAnyH_ready (rs := [5, 7]) (by kernel_rfl) (by simp) ?_
    refine (AllReadyH.cons (o := { dst := some 11, op := Op.makeSlice 22 (Operand.tmp 10) (Operand.tmp 10), type := 22, pos := "lanes.go:28", after := #[{ on := 4, ground := Ground.data }, { on := 4, ground := Ground.data }], guard := none }) rfl (fun K hK => ?_) (AllReadyH.cons (o := { dst := some 3, op := Op.alloc 24, type := 0, pos := "lanes.go:28", after := #[], guard := none }) rfl (fun K hK => ?_) AllReadyH.nil))
    · refine step_make_w KE KE_ok (0, 0) rfl _ (by rfl) (.tmp 10) (.tmp 10) 22 (by rfl) Try.underlying22 m (by rfl) (by rfl) (by omega) (by decide) ?_
      intro wM oM bM
      have OM := hid oM
      have BM := hid bM
      clear oM bM
      refine hK.out _ _ ?_ (fun hHeld => ?_)
      · exact C0.out _ (bl3 BD.out BM.out)
      clear hK K
      try simp only [Act.put, List.setIfInBounds_toArray, List.set_cons_zero, List.set_cons_succ]
      refine wpAnyH_take (i := 6) (oi := { dst := some 12, op := Op.build 24 #[(0, Operand.tmp 7), (1, Operand.tmp 11)], type := 24, pos := "lanes.go:28", after := #[{ on := 1, ground := Ground.data }, { on := 5, ground := Ground.data }], guard := none }) (v := ?_) rfl (by kernel_rfl) (by kernel_rfl) (by kernel_rfl) (fun _ _ _ h => h) (Or.inl ⟨by rfl, ?_⟩) (by assumption) ?_
      rotate_left
      · intro w hSw
        try dsimp only at hSw
        go_simp
        try with_reducible rfl
      try simp only [Act.put, List.setIfInBounds_toArray, List.set_cons_zero, List.set_cons_succ]
      refine wpAnyH_ready (rs := [7]) (by kernel_rfl) (by simp) ?_
      refine AllReadyH.cons (o := { dst := some 3, op := Op.alloc 24, type := 0, pos := "lanes.go:28", after := #[], guard := none }) rfl (fun K hK => ?_) AllReadyH.nil
      go_simp
      refine hK.out _ _ ?_ (fun hHeld => ?_)
      · exact C0.out _ (bl3 (bl3 BD.out BM.out) (bal _ _))
      clear hK K
      try simp only [Act.put, List.setIfInBounds_toArray, List.set_cons_zero, List.set_cons_succ]
      refine wpAnyH_ready (rs := [8]) (by kernel_rfl) (by simp) ?_
      refine AllReadyH.cons (o := { dst := none, op := Op.store 24 (Operand.tmp 3) (Operand.tmp 12), type := 0, pos := "lanes.go:28", after := #[{ on := 7, ground := Ground.data }, { on := 6, ground := Ground.data }, { on := 0, ground := Ground.phase }, { on := 1, ground := Ground.phase }, { on := 2, ground := Ground.phase }, { on := 3, ground := Ground.phase }, { on := 4, ground := Ground.phase }, { on := 5, ground := Ground.phase }, { on := 6, ground := Ground.phase }, { on := 7, ground := Ground.phase }], guard := none }) rfl (fun K hK => ?_) AllReadyH.nil
      go_simp
      refine hK.out _ _ ?_ (fun hHeld => ?_)
      · exact C0.out _ (bl3 (bl3 BD.out BM.out) (bal _ _))
      clear hK K
      try simp only [Act.put, List.setIfInBounds_toArray, List.set_cons_zero, List.set_cons_succ]
      refine wpAnyH_done (by kernel_rfl) ?_ _
      go_wp2
      go_meet
      case rel => exact ⟨_, _, _, rfl, rfl, ⟨bl3 (bl3 BD.out BM.out) (bal _ _), heap_alloc_new _ _, by rw [← TE.out]; exact OM.out.below (bal _ _), (bl3 BD.out BM.out).size⟩⟩
    · go_simp
      refine hK.out _ _ ?_ (fun hHeld => ?_)
      · exact C0.out _ (bl3 (bal W _) (drew_below _ 1))
      clear hK K
      try simp only [Act.put, List.setIfInBounds_toArray, List.set_cons_zero, List.set_cons_succ]
      refine wpAnyH_ready (rs := [5]) (by kernel_rfl) (by simp) ?_
      refine AllReadyH.cons (o := { dst := some 11, op := Op.makeSlice 22 (Operand.tmp 10) (Operand.tmp 10), type := 22, pos := "lanes.go:28", after := #[{ on := 4, ground := Ground.data }, { on := 4, ground := Ground.data }], guard := none }) rfl (fun K hK => ?_) AllReadyH.nil
      refine step_make_w KE KE_ok (0, 0) rfl _ (by rfl) (.tmp 10) (.tmp 10) 22 (by rfl) Try.underlying22 m (by rfl) (by rfl) (by omega) (by decide) ?_
      intro wM oM bM
      have OM := hid oM
      have BM := hid bM
      clear oM bM
      refine hK.out _ _ ?_ (fun hHeld => ?_)
      · exact C0.out _ (bl3 (bl3 (bal W _) (drew_below _ 1)) BM.out)
      clear hK K
      try simp only [Act.put, List.setIfInBounds_toArray, List.set_cons_zero, List.set_cons_succ]
      refine wpAnyH_take (i := 6) (oi := { dst := some 12, op := Op.build 24 #[(0, Operand.tmp 7), (1, Operand.tmp 11)], type := 24, pos := "lanes.go:28", after := #[{ on := 1, ground := Ground.data }, { on := 5, ground := Ground.data }], guard := none }) (v := ?_) rfl (by kernel_rfl) (by kernel_rfl) (by kernel_rfl) (fun _ _ _ h => h) (Or.inl ⟨by rfl, ?_⟩) (by assumption) ?_
      rotate_left
      · intro w hSw
        try dsimp only at hSw
        go_simp
        try with_reducible rfl
      try simp only [Act.put, List.setIfInBounds_toArray, List.set_cons_zero, List.set_cons_succ]
      have HS1 : Hid ((W.alloc (.cells #[.int .i64 0, .slice none 0 0] 24)).drew.heap.size = W.heap.size + 1) := asz _ _
      have HC : Hid (wM.heap[W.heap.size]? = some (.cells #[.int .i64 0, .slice none 0 0] 24)) := (BM.out.block W.heap.size (by rw [HS1.out]; exact Nat.lt_succ_self _)).trans (heap_alloc_new W (.cells #[.int .i64 0, .slice none 0 0] 24))
      have HC2 : Hid (∀ rb : Nat, ((wM.setCell ⟨W.heap.size, 0, none⟩ (.int .i64 n)).setCell ⟨W.heap.size, 1, none⟩ (.slice (some ⟨rb, 0, none⟩) m m)).heap[W.heap.size]? = some (.cells #[.int .i64 n, .slice (some ⟨rb, 0, none⟩) m m] 24)) := fun rb => heap_setCell_same _ W.heap.size 1 _ _ _ (heap_setCell_same wM W.heap.size 0 _ _ (.int .i64 n) HC.out)
      have OMf : Hid (∀ a b : Value, OwnG KE ((wM.setCell ⟨W.heap.size, 0, none⟩ a).setCell ⟨W.heap.size, 1, none⟩ b) W.heap.size (.slice (some ⟨W.heap.size + 1, 0, none⟩) m m) (twL l 0)) := fun a b => by
        rw [← TE.out]
        have OM2 := OM.out
        rw [HS1.out] at OM2
        refine (OM2.far fun g hg => ?_).low (Nat.le_succ _)
        have h1 := (OM2.lt hg).1
        have h2 : g ≠ W.heap.size := by omega
        rw [set_far h2, set_far h2]
      have y0 : wM.cell? ⟨W.heap.size, 0, none⟩ = some (.int .i64 0) := cell_of_row _ _ _ _ _ _ HC.out
      have y1 : wM.cell? ⟨W.heap.size, 1, none⟩ = some (.slice none 0 0) := cell_of_row _ _ _ _ _ _ HC.out
      have y2 : ∀ o, wM.frozen? ⟨W.heap.size, o, none⟩ = false := fun o => by simp [World.frozen?, HC.out]
      refine wpAnyH_ready (rs := [8]) (by kernel_rfl) (by simp) ?_
      refine AllReadyH.cons (o := { dst := none, op := Op.store 24 (Operand.tmp 3) (Operand.tmp 12), type := 0, pos := "lanes.go:28", after := #[{ on := 7, ground := Ground.data }, { on := 6, ground := Ground.data }, { on := 0, ground := Ground.phase }, { on := 1, ground := Ground.phase }, { on := 2, ground := Ground.phase }, { on := 3, ground := Ground.phase }, { on := 4, ground := Ground.phase }, { on := 5, ground := Ground.phase }, { on := 6, ground := Ground.phase }, { on := 7, ground := Ground.phase }], guard := none }) rfl (fun K hK => ?_) AllReadyH.nil
      go_simp
      refine hK.out _ _ ?_ (fun hHeld => ?_)
      · exact C0.out _ ((bl3 (bl3 (bal W _) (drew_below _ 1)) BM.out).setCell (p := ⟨W.heap.size, 0, none⟩) (Nat.le_refl _) _ |>.setCell (p := ⟨W.heap.size, 1, none⟩) (Nat.le_refl _) _)
      clear hK K
      try simp only [Act.put, List.setIfInBounds_toArray, List.set_cons_zero, List.set_cons_succ]
      refine wpAnyH_done (by kernel_rfl) ?_ _
      go_wp2
      go_meet
      case rel => exact ⟨_, _, _, rfl, rfl, ⟨(bl3 (bl3 (bal W _) (drew_below _ 1)) BM.out).setCell (p := ⟨W.heap.size, 0, none⟩) (Nat.le_refl _) _ |>.setCell (p := ⟨W.heap.size, 1, none⟩) (Nat.le_refl _) _, HC2.out _, OMf.out _ _, Nat.le_refl _⟩⟩
  obtain ⟨bb, rb, w3, rfl, rfl, HQ⟩ := hcut
  obtain ⟨d0, d1⟩ := C0.out w3 HQ.out.bl
  go_wp2
  clear d0 d1
  go_loopw [16] (fun v16 wr => ∃ (j : Nat) (wk : World), v16 = .int .i64 j ∧ wk = wr ∧ j ≤ m ∧ Hid (TQ W n m bb rb (twL l j) wk)) (fun v16 _ => m - (intOf v16).toNat)
  case atStart => exact ⟨0, _, rfl, rfl, Nat.zero_le _, HQ⟩
  case round =>
    obtain ⟨j, wr, rfl, rfl, hj, HT⟩ := hrel
    clear HQ
    by_cases hlt : j < m
    · have j1 : j < l.length := by have := M1.out; omega
      obtain ⟨X, o, e1, _, c1, c2⟩ := A1.out wr (bl3 BW.out HT.out.bl) j j1
      subst e1
      have hjl : j < (twL l j).length := by rw [twL_len (Nat.le_of_lt j1)]; exact j1
      have HS := hid (twL_set j1)
      generalize hV : wr.alloc (.cells #[.int .i64 l[j].1, .int .i64 l[j].2] 47) = V
      have TV : Hid (TQ W n m bb rb (twL l j) V) := by rw [← hV]; exact HT.out.below (bal _ _)
      have VE : V.heap[wr.heap.size]? = some (.cells #[.int .i64 l[j].1, .int .i64 l[j].2] 47) := by rw [← hV]; exact heap_alloc_new _ _
      have x0 : V.cell? ⟨wr.heap.size, 0, none⟩ = some (.int .i64 l[j].1) := cell_of_row _ _ _ _ _ _ VE
      have x1 : V.cell? ⟨wr.heap.size, 1, none⟩ = some (.int .i64 l[j].2) := cell_of_row _ _ _ _ _ _ VE
      have b1 : V.cell? ⟨bb, 1, none⟩ = some (.slice (some ⟨rb, 0, none⟩) m m) := cell_of_row _ _ _ _ _ _ TV.out.bx
      obtain ⟨Y, o2, e2, _, r0, r1⟩ := GS.atE (TV.out.ow.gs KE_ok.len) hjl
      injection e2 with e2
      injection e2 with e2 e3 _
      subst e2 e3
      rw [Nat.zero_add] at r0 r1
      have fz := own_frozen TV.out.ow
      have PU := hid (TV.out.put hjl (swE l[j]))
      rw [HS.out] at PU
      have PU2 : Hid (TQ W n m bb rb (twL l (j + 1)) ((V.setCell ⟨rb, j * 2, none⟩ (.int .i64 l[j].2)).setCell ⟨rb, j * 2 + 1, none⟩ (.int .i64 l[j].1))) := PU.out
      have hji : (j : Int) < (m : Nat) := by omega
      generalize l[j].1 = x at *
      generalize l[j].2 = y at *
      generalize (twL l j)[j].1 = z1 at *
      generalize (twL l j)[j].2 = z2 at *
      clear PU HS HT VE
      go_upto_region 5 with fail
      try rw [hV]
      clear hV c1 c2
      go_wp2
      go_roundw
      case rel => exact ⟨j + 1, _, by go_num, rfl, by omega, PU2⟩
      case measure => simp [intOf]; omega
    · obtain rfl : j = m := by omega
      have e : twL l j = l.map swE := by have := twL_end l; rw [M1.out] at this; exact this
      rw [e] at HT
      have b0 : wr.cell? ⟨bb, 0, none⟩ = some (.int .i64 n) := cell_of_row _ _ _ _ _ _ HT.out.bx
      have b1 : wr.cell? ⟨bb, 1, none⟩ = some (.slice (some ⟨rb, 0, none⟩) j j) := cell_of_row _ _ _ _ _ _ HT.out.bx
      have z4 := (HB.out wr HT.out.bl).2
      have y0 : wr.cell? ⟨sz + 1, 0, none⟩ = some (.int .i64 0) := cell_of_row _ _ _ _ _ _ z4
      have y1 : wr.cell? ⟨sz + 1, 1, none⟩ = some (.slice none 0 0) := cell_of_row _ _ _ _ _ _ z4
      have y2 : ∀ o, wr.frozen? ⟨sz + 1, o, none⟩ = false := fun o => by simp [World.frozen?, z4]
      have hz := heap_setCell_same _ (sz + 1) 1 _ _ (.slice (some ⟨rb, 0, none⟩) j j) (heap_setCell_same wr (sz + 1) 0 _ _ (.int .i64 n) z4)
      have r0 : ((wr.setCell ⟨sz + 1, 0, none⟩ (.int .i64 n)).setCell ⟨sz + 1, 1, none⟩ (.slice (some ⟨rb, 0, none⟩) j j)).cell? ⟨sz + 1, 0, none⟩ = some (.int .i64 n) := cell_of_row _ _ _ _ _ _ hz
      have r1 : ((wr.setCell ⟨sz + 1, 0, none⟩ (.int .i64 n)).setCell ⟨sz + 1, 1, none⟩ (.slice (some ⟨rb, 0, none⟩) j j)).cell? ⟨sz + 1, 1, none⟩ = some (.slice (some ⟨rb, 0, none⟩) j j) := cell_of_row _ _ _ _ _ _ hz
      have FIN : Hid (OwnG KE ((wr.setCell ⟨sz + 1, 0, none⟩ (.int .i64 n)).setCell ⟨sz + 1, 1, none⟩ (.slice (some ⟨rb, 0, none⟩) j j)) w.heap.size (.slice (some ⟨rb, 0, none⟩) j j) (l.map swE) ∧ Below w.heap.size w ((wr.setCell ⟨sz + 1, 0, none⟩ (.int .i64 n)).setCell ⟨sz + 1, 1, none⟩ (.slice (some ⟨rb, 0, none⟩) j j))) := by
        have hs := SW.out
        have hzz := HZ.out
        refine ⟨(HT.out.ow.far fun g hg => ?_).low BW.out.size, ?_⟩
        · have := (HT.out.ow.lt hg).1
          rw [set_far (by omega), set_far (by omega)]
        · refine Below.setCell (p := ⟨sz + 1, 1, none⟩) (Below.setCell (p := ⟨sz + 1, 0, none⟩) (bl3 BW.out HT.out.bl) (by show w.heap.size ≤ sz + 1; omega) _) (by show w.heap.size ≤ sz + 1; omega) _
      clear z4 hz
      go_wp2
      refine bodyPost_ret (v := .agg #[.int .i64 n, .slice (some ⟨rb, 0, none⟩) j j]) (by simp [results, Try.results54, go_sem, r0, r1]) rfl ?_
      exact ⟨_, _, rfl, FIN.out.1, FIN.out.2⟩
end Go.Proofs.Ytghkhceplpjegaa
