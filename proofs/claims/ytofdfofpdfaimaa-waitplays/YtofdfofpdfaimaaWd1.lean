/- Waiting: plain: waiters as they are told. -/
import Derived.Test.YtofdfofpdfaimaaWc4
namespace Go.Proofs.Ytofdfofpdfaimaa
open Go.RowKit Go.Maps

theorem flat_repW {α : Type} (f : α → List Value) (x : α) : ∀ n : Nat, (List.replicate n x).flatMap f = (List.replicate n (f x)).flatten
  | 0 => rfl
  | n + 1 => by rw [List.replicate_succ, List.replicate_succ, List.flatMap_cons, List.flatten_cons, flat_repW f x n]
theorem made_w (z : Array Value) (hz : 0 < z.size) : ∀ n : Nat, (madeCells z (n * z.size)).toList = (List.replicate n z.toList).flatten
  | 0 => by simp [madeCells]
  | n + 1 => by
    have ih := made_w z hz n
    have e : ∀ m, (madeCells z m).toList = (List.range m).map (fun i => z[i % z.size]!) := fun m => by simp [madeCells]
    rw [e] at ih ⊢
    rw [Nat.add_mul, Nat.one_mul, List.range_add, List.map_append, ih, List.replicate_succ', List.flatten_append]
    congr 1
    rw [List.map_map]
    refine List.ext_getElem (by simp) (fun i h1 h2 => ?_)
    have hi : i < z.size := by simpa using h1
    simp [Nat.mod_eq_of_lt hi, hi, Nat.add_mod, Nat.mul_mod_left]
theorem make_w {α : Type} {P : Program} (K : RK α) (hk : K.Ok P) (x0 : α) (hz : K.z.cells.toList = K.f x0) (w : World) {ops : Array Oper} {rest : List Oper} {o : Oper} {a : Act} {Q : Exit → Act → World → Prop}
    (hg : o.guard = none) (l c : Operand) (t : TypeId) (hop : o.op = Op.makeSlice t l c) (ht : P.underlying t = some (.slice K.ty))
    (n : Nat) (hl : a.eval l = .int .i64 n) (hc : a.eval c = .int .i64 n) (hn : n ≤ 100000) (hB : K.B ≤ 1000)
    (hK : ∀ w', OwnG K w' w.heap.size (.slice (some ⟨w.heap.size, 0, none⟩) n n) (List.replicate n x0) → Below w.heap.size w w' → wpList P ops Q rest (a.put o.dst (.slice (some ⟨w.heap.size, 0, none⟩) n n)) w') : wpList P ops Q (o :: rest) a w := by
  obtain ⟨i0, hi0, hz0, hz1, hz2⟩ := hk.info
  have hmul : K.B * n ≤ 1000 * 100000 := Nat.mul_le_mul hB hn
  refine wpList_make_full w hg l c t hop w.heap.size K.ty i0 K.z K.W ht hi0 hz0 hz1 .i64 .i64 n n n hl hc rfl rfl (by rw [hz2]; omega) (by unfold maxLen; omega) (Nat.le_refl _) ?_
  intro w' ho hgr
  refine hK w' ?_ ((Below.refl _ _).grown hgr (Nat.le_refl _) (fun k hk => by cases hk))
  unfold OwnG
  rw [List.length_replicate]
  have hsz : K.z.cells.size = K.W := by rw [← hk.len x0, ← hz]; simp
  have := made_w K.z.cells (by rw [hsz]; exact hk.pos) n
  rw [hsz, hz] at this
  rw [flat_repW, ← this]
  exact ho
theorem OwnG.setW {α : Type} {K : RK α} (hf : ∀ x, (K.f x).length = K.W) {w : World} {base g n cap : Nat} {l : List α} (h : OwnG K w base (.slice (some ⟨g, 0, none⟩) n cap) l) {k j : Nat} (hk : k < l.length) (hj : j < K.W) (x : α) (u : Value) (hu : K.f x = (K.f l[k]).set j u) : OwnG K (w.setCell ⟨g, k * K.W + j, none⟩ u) base (.slice (some ⟨g, 0, none⟩) n cap) (l.set k x) := by
  obtain ⟨h1, h2⟩ := h
  rcases h2 with ⟨h2, _⟩ | ⟨g', cp, cur, e1, e2, e3, e4, e5, e6, e7⟩
  · cases h2
  · injection e1 with e1 e8 e9
    injection e1 with e1
    injection e1 with e1 _ _
    subst e1 e9
    refine ⟨RK.flat_len hf _, Or.inr ⟨g, cap, cur.setIfInBounds (k * K.W + j) u, by rw [List.length_set, e8], e2, heap_setCell_same w g _ cur _ _ e3, by rw [List.length_set]; exact e4, e5, by simpa using e6, ?_⟩⟩
    have fl : ∀ (l : List α) (k : Nat) (hk : k < l.length), K.f x = (K.f l[k]).set j u → (l.set k x).flatMap K.f = (l.flatMap K.f).set (k * K.W + j) u := fun l => by
      induction l with
      | nil => intro k hk; simp at hk
      | cons y r ih =>
        intro k hk hx
        cases k with
        | zero =>
          rw [List.set_cons_zero, List.flatMap_cons, List.flatMap_cons, Nat.zero_mul, Nat.zero_add, List.set_append_left _ _ (by rw [hf]; exact hj)]
          rw [hx]; rfl
        | succ k =>
          rw [List.set_cons_succ, List.flatMap_cons, List.flatMap_cons, ih k (by simpa using hk) hx, List.set_append_right _ _ (by rw [hf, Nat.add_mul]; omega), hf]
          congr 2
          rw [Nat.add_mul]; omega
    rw [List.length_set, fl l k hk hu, ← e7]
    simp [Array.toList_setIfInBounds, List.take_set]
theorem fill_setL {α : Type} (A : List α) (z x : α) (m : Nat) (hm : 0 < m) : (A ++ List.replicate m z).set A.length x = (A ++ [x]) ++ List.replicate (m - 1) z := by
  rw [List.set_append_right _ _ (Nat.le_refl _), Nat.sub_self]
  obtain ⟨k, rfl⟩ : ∃ k, m = k + 1 := ⟨m - 1, by omega⟩
  rw [List.replicate_succ, List.set_cons_zero]
  simp
theorem OwnG.setWt {w : World} {base g n cap : Nat} {l : List Wt} (h : OwnG KW w base (.slice (some ⟨g, 0, none⟩) n cap) l) {k : Nat} (hk : k < l.length) (x : Wt) :
    OwnG KW ((((w.setCell ⟨g, k * 4, none⟩ (.int .i64 x.task)).setCell ⟨g, k * 4 + 1, none⟩ (.int .i64 x.kind)).setCell ⟨g, k * 4 + 2, none⟩ (.string x.key)).setCell ⟨g, k * 4 + 3, none⟩ (.string x.tok)) base (.slice (some ⟨g, 0, none⟩) n cap) (l.set k x) := by
  obtain ⟨y, hy⟩ : ∃ y, y = l[k] := ⟨_, rfl⟩
  have h1 := h.setW KW_ok.len hk (j := 0) (by decide) ⟨x.task, y.kind, y.key, y.tok⟩ (.int .i64 x.task) (by rw [← hy]; rfl)
  have h2 := h1.setW KW_ok.len (k := k) (by simpa using hk) (j := 1) (by decide) ⟨x.task, x.kind, y.key, y.tok⟩ (.int .i64 x.kind) (by rw [List.getElem_set_self]; rfl)
  have h3 := h2.setW KW_ok.len (k := k) (by simpa using hk) (j := 2) (by decide) ⟨x.task, x.kind, x.key, y.tok⟩ (.string x.key) (by rw [List.getElem_set_self]; rfl)
  have h4 := h3.setW KW_ok.len (k := k) (by simpa using hk) (j := 3) (by decide) x (.string x.tok) (by rw [List.getElem_set_self]; rfl)
  rw [List.set_set, List.set_set, List.set_set] at h4
  exact h4
theorem below4 {base : Nat} {w w' : World} (h : Below base w w') {g : Nat} (hg : base ≤ g) (a b c d : Nat) (v0 v1 v2 v3 : Value) : Below base w ((((w'.setCell ⟨g, a, none⟩ v0).setCell ⟨g, b, none⟩ v1).setCell ⟨g, c, none⟩ v2).setCell ⟨g, d, none⟩ v3) :=
  (((h.setCell (p := ⟨g, a, none⟩) hg _).setCell (p := ⟨g, b, none⟩) hg _).setCell (p := ⟨g, c, none⟩) hg _).setCell (p := ⟨g, d, none⟩) hg _
theorem fill_next (l : List Wc) (k n : Nat) (hn : n = l.length) (hk : k < l.length) : ((l.take k).map (fun x => x.w) ++ List.replicate (n - k) w0).set k l[k].w = (l.take (k + 1)).map (fun x => x.w) ++ List.replicate (n - (k + 1)) w0 := by
  have hlen : ((l.take k).map (fun x : Wc => x.w)).length = k := by simp; omega
  have := fill_setL ((l.take k).map (fun x : Wc => x.w)) w0 l[k].w (n - k) (by omega)
  rw [hlen] at this
  rw [this, List.take_succ_eq_append_getElem hk, List.map_append]
  rfl
theorem own_atW {w : World} {base g n c : Nat} {l : List Wt} (h : OwnG KW w base (.slice (some ⟨g, 0, none⟩) n c) l) (hn : n = l.length) {k : Nat} (hk : k < l.length) : ∃ z : Wt, w.cell? ⟨g, k * 4, none⟩ = some (.int .i64 z.task) ∧ w.cell? ⟨g, k * 4 + 1, none⟩ = some (.int .i64 z.kind) ∧ w.cell? ⟨g, k * 4 + 2, none⟩ = some (.string z.key) ∧ w.cell? ⟨g, k * 4 + 3, none⟩ = some (.string z.tok) ∧ z = l[k] := by
  subst hn
  obtain ⟨Y, o', e2, y0, y1, y2, y3⟩ := (h.gs KW_ok.len).atW hk
  injection e2 with e2
  injection e2 with e2 e3 _
  subst e2 e3
  rw [Nat.zero_add] at y0 y1 y2 y3
  exact ⟨l[k], y0, y1, y2, y3, rfl⟩
theorem GS.ltX {α : Type} {K : RK α} {w : World} {X o n cap k : Nat} {l : List α} (h : GS K w (.slice (some ⟨X, o, none⟩) n cap) l) (hk : k < l.length) : X < w.heap.size := h.lt (by omega) rfl
set_option maxHeartbeats 8000000 in
theorem plain_any (v : Value) (l : List Wc) (w : World) (h : GS KC w v l) (hl : l.length ≤ 10000) : Calls Try.prog 28 #[v] w fun e w' => ∃ p c, e = .returned (.slice p l.length c) ∧ OwnG KW w' w.heap.size (.slice p l.length c) (l.map fun x => x.w) ∧ Below w.heap.size w w' := by
  obtain ⟨p, cap, rfl⟩ := h.form
  have HS := hid h
  obtain ⟨n, hn⟩ : ∃ n, n = l.length := ⟨_, rfl⟩
  have HN := hid hn
  rw [← hn]
  rw [← hn] at HS
  have hl2 : n ≤ 10000 := by omega
  clear h hn
  go_enter Try.func28, Try.ntmps28
  go_wp2_with (at_make; refine make_w KW KW_ok w0 rfl _ rfl _ _ 25 rfl Try.underlying25 n rfl rfl (by omega) (by decide) ?_; intro w1 ho1 hb1)
  have O0 : Hid (OwnG KW w1 w.heap.size (.slice (some ⟨w.heap.size, 0, none⟩) n n) ((l.take 0).map (fun x => x.w) ++ List.replicate (n - 0) w0)) := ho1
  have B1 := hid hb1
  clear ho1 hb1
  go_loopw [11] (fun i wr => ∃ (k : Nat) (wk : World), i = .int .i64 k ∧ wk = wr ∧ k ≤ n ∧ Hid (Below w.heap.size w wk) ∧ Hid (OwnG KW wk w.heap.size (.slice (some ⟨w.heap.size, 0, none⟩) n n) ((l.take k).map (fun x => x.w) ++ List.replicate (n - k) w0))) (fun i _ => n - (intOf i).toNat)
  case atStart => exact ⟨0, _, rfl, rfl, Nat.zero_le _, B1, O0⟩
  case round =>
    obtain ⟨k, wr, rfl, rfl, hk, HW, HO⟩ := hrel
    clear B1 O0
    by_cases hlt : k < n
    · have hkl : k < l.length := by rw [← HN.out]; exact hlt
      obtain ⟨X, o, e1, x0, x1, x2, x3, x4⟩ := (HS.out.below HW.out).atC hkl
      obtain rfl : p = some ⟨X, o, none⟩ := e1
      have hlen : Hid (((l.take k).map (fun x : Wc => x.w) ++ List.replicate (n - k) w0).length = n) := by have := HN.out; show _ = _; simp; omega
      obtain ⟨z, y0, y1, y2, y3, hz9⟩ := own_atW HO.out hlen.out.symm (k := k) (by rw [hlen.out]; exact hlt)
      have fz := own_frozen HO.out
      have zl : w.heap.size < wr.heap.size := (HO.out.lt rfl).2
      have zx : X < wr.heap.size := (HS.out.below HW.out).ltX hkl
      have NX : Hid (∀ ob, OwnG KW (((((wr.alloc ob).setCell ⟨w.heap.size, k * 4, none⟩ (.int .i64 l[k].w.task)).setCell ⟨w.heap.size, k * 4 + 1, none⟩ (.int .i64 l[k].w.kind)).setCell ⟨w.heap.size, k * 4 + 2, none⟩ (.string l[k].w.key)).setCell ⟨w.heap.size, k * 4 + 3, none⟩ (.string l[k].w.tok)) w.heap.size (.slice (some ⟨w.heap.size, 0, none⟩) n n) ((l.take (k + 1)).map (fun x => x.w) ++ List.replicate (n - (k + 1)) w0)) := fun ob => by
        have h1 := (HO.out.below (bal wr ob)).setWt (k := k) (by rw [hlen.out]; exact hlt) l[k].w
        rw [fill_next l k n HN.out hkl] at h1
        exact h1
      have BX := hid (fun ob => below4 (bl3 HW.out (bal wr ob)) (Nat.le_refl _) (k * 4) (k * 4 + 1) (k * 4 + 2) (k * 4 + 3) (.int .i64 l[k].w.task) (.int .i64 l[k].w.kind) (.string l[k].w.key) (.string l[k].w.tok))
      have OW := hid HO.out
      generalize l[k] = y at *
      clear hz9 HO y0 y1 y2 y3 fz
      go_upto_region 5 with fail
      obtain ⟨ob, hob⟩ : ∃ ob, ob = Obj.cells #[.int .i64 y.w.task, .int .i64 y.w.kind, .string y.w.key, .string y.w.tok, .int .i64 y.came] 69 := ⟨_, rfl⟩
      rw [← hob]
      have O2 := hid (OW.out.below (bal wr ob))
      have H2 : Hid ((wr.alloc ob).heap[wr.heap.size]? = some (.cells #[.int .i64 y.w.task, .int .i64 y.w.kind, .string y.w.key, .string y.w.tok, .int .i64 y.came] 69)) := (heap_alloc_new wr ob).trans (congrArg some hob)
      have NY := hid (NX.out ob)
      have BY := hid (BX.out ob)
      generalize hW : wr.alloc ob = w2 at *
      clear hW hob NX BX
      obtain ⟨z, y0, y1, y2, y3, hz9⟩ := own_atW O2.out hlen.out.symm (k := k) (by rw [hlen.out]; exact hlt)
      have fz := own_frozen O2.out
      have t0 : w2.cell? ⟨wr.heap.size, 0, none⟩ = some (.int .i64 y.w.task) := cell_of_row _ _ _ _ _ _ H2.out
      have t1 : w2.cell? ⟨wr.heap.size, 1, none⟩ = some (.int .i64 y.w.kind) := cell_of_row _ _ _ _ _ _ H2.out
      have t2 : w2.cell? ⟨wr.heap.size, 2, none⟩ = some (.string y.w.key) := cell_of_row _ _ _ _ _ _ H2.out
      have t3 : w2.cell? ⟨wr.heap.size, 3, none⟩ = some (.string y.w.tok) := cell_of_row _ _ _ _ _ _ H2.out
      clear hz9 hlen hkl
      go_wp2_with fail
      go_roundw
      case rel => exact ⟨k + 1, _, by go_num, rfl, by omega, BY, NY⟩
      case measure => simp [intOf]; omega
    · obtain rfl : k = n := by omega
      have FI : Hid ((l.take k).map (fun x => x.w) ++ List.replicate (k - k) w0 = l.map fun x => x.w) := by show _ = _; rw [List.take_of_length_le (by have := HN.out; omega)]; simp
      rw [FI.out] at HO
      go_wp2_with fail
      go_ret
      exact ⟨_, _, rfl, HO.out, HW.out⟩
end Go.Proofs.Ytofdfofpdfaimaa
