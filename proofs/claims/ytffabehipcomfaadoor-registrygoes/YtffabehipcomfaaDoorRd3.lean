/- Registry: Clone. -/
import Derived.Test.YtffabehipcomfaaDoorRd2
import Derived.Shelf.SlMaps.Clone
namespace Go.Proofs.YtffabehipcomfaaDoor
open Go.RowKit Go.Maps

theorem flat_repW {α : Type} (f : α → List Value) (x : α) : ∀ n : Nat, (List.replicate n x).flatMap f = (List.replicate n (f x)).flatten
  | 0 => rfl
  | n + 1 => by rw [List.replicate_succ, List.replicate_succ, List.flatMap_cons, List.flatten_cons, flat_repW f x n]
theorem made_w (z : Array Value) (hz : 0 < z.size) : ∀ n : Nat, (madeCells z (n * z.size)).toList = (List.replicate n z.toList).flatten
  | 0 => by simp [madeCells]
  | n + 1 => by
    have ih := made_w z hz n
    have e : ∀ m, (madeCells z m).toList = (List.range m).map (fun i => z[i % z.size]!) := fun m => by simp [madeCells]
    rw [e] at ih ⊢
    rw [Nat.add_mul, Nat.one_mul, List.range_add, List.map_append, ih, List.replicate_succ', List.flatten_append]
    congr 1
    rw [List.map_map]
    refine List.ext_getElem (by simp) (fun i h1 h2 => ?_)
    have hi : i < z.size := by simpa using h1
    simp [Nat.mod_eq_of_lt hi, hi, Nat.add_mod, Nat.mul_mod_left]
theorem make_w {α : Type} {P : Program} (K : RK α) (hk : K.Ok P) (x0 : α) (hz : K.z.cells.toList = K.f x0) (w : World) {ops : Array Oper} {rest : List Oper} {o : Oper} {a : Act} {Q : Exit → Act → World → Prop}
    (hg : o.guard = none) (l c : Operand) (t : TypeId) (hop : o.op = Op.makeSlice t l c) (ht : P.underlying t = some (.slice K.ty))
    (n : Nat) (hl : a.eval l = .int .i64 n) (hc : a.eval c = .int .i64 n) (hn : n ≤ 100000) (hB : K.B ≤ 1000)
    (hK : ∀ w', OwnG K w' w.heap.size (.slice (some ⟨w.heap.size, 0, none⟩) n n) (List.replicate n x0) → Below w.heap.size w w' → wpList P ops Q rest (a.put o.dst (.slice (some ⟨w.heap.size, 0, none⟩) n n)) w') : wpList P ops Q (o :: rest) a w := by
  obtain ⟨i0, hi0, hz0, hz1, hz2⟩ := hk.info
  have hmul : K.B * n ≤ 1000 * 100000 := Nat.mul_le_mul hB hn
  refine wpList_make_full w hg l c t hop w.heap.size K.ty i0 K.z K.W ht hi0 hz0 hz1 .i64 .i64 n n n hl hc rfl rfl (by rw [hz2]; omega) (by unfold maxLen; omega) (Nat.le_refl _) ?_
  intro w' ho hgr
  refine hK w' ?_ ((Below.refl _ _).grown hgr (Nat.le_refl _) (fun k hk => by cases hk))
  unfold OwnG
  rw [List.length_replicate]
  have hsz : K.z.cells.size = K.W := by rw [← hk.len x0, ← hz]; simp
  have := made_w K.z.cells (by rw [hsz]; exact hk.pos) n
  rw [hsz, hz] at this
  rw [flat_repW, ← this]
  exact ho
theorem OwnG.setW {α : Type} {K : RK α} (hf : ∀ x, (K.f x).length = K.W) {w : World} {base g n cap : Nat} {l : List α} (h : OwnG K w base (.slice (some ⟨g, 0, none⟩) n cap) l) {k j : Nat} (hk : k < l.length) (hj : j < K.W) (x : α) (u : Value) (hu : K.f x = (K.f l[k]).set j u) : OwnG K (w.setCell ⟨g, k * K.W + j, none⟩ u) base (.slice (some ⟨g, 0, none⟩) n cap) (l.set k x) := by
  obtain ⟨h1, h2⟩ := h
  rcases h2 with ⟨h2, _⟩ | ⟨g', cp, cur, e1, e2, e3, e4, e5, e6, e7⟩
  · cases h2
  · injection e1 with e1 e8 e9
    injection e1 with e1
    injection e1 with e1 _ _
    subst e1 e9
    refine ⟨RK.flat_len hf _, Or.inr ⟨g, cap, cur.setIfInBounds (k * K.W + j) u, by rw [List.length_set, e8], e2, heap_setCell_same w g _ cur _ _ e3, by rw [List.length_set]; exact e4, e5, by simpa using e6, ?_⟩⟩
    have fl : ∀ (l : List α) (k : Nat) (hk : k < l.length), K.f x = (K.f l[k]).set j u → (l.set k x).flatMap K.f = (l.flatMap K.f).set (k * K.W + j) u := fun l => by
      induction l with
      | nil => intro k hk; simp at hk
      | cons y r ih =>
        intro k hk hx
        cases k with
        | zero =>
          rw [List.set_cons_zero, List.flatMap_cons, List.flatMap_cons, Nat.zero_mul, Nat.zero_add, List.set_append_left _ _ (by rw [hf]; exact hj)]
          rw [hx]; rfl
        | succ k =>
          rw [List.set_cons_succ, List.flatMap_cons, List.flatMap_cons, ih k (by simpa using hk) hx, List.set_append_right _ _ (by rw [hf, Nat.add_mul]; omega), hf]
          congr 2
          rw [Nat.add_mul]; omega
    rw [List.length_set, fl l k hk hu, ← e7]
    simp [Array.toList_setIfInBounds, List.take_set]
set_option maxHeartbeats 4000000 in
set_option maxRecDepth 100000 in
theorem mclone_any (w : World) (b n : Nat) (f : ByteArray → Option Value) (h : MV w b n f) :
    Calls Tryd.prog 34 #[.map (some b)] w fun e w' => e = .returned (.map (some w.heap.size)) ∧ MV w' w.heap.size n f ∧ Below w.heap.size w w' := by
  obtain ⟨D, ⟨es, cl, h1, h2⟩, h3⟩ := h
  have hq := fun w => run_eql_map_nil_sl (P := Tryd.prog) w 64 _ _ (some b) Tryd.underlying64
  obtain ⟨fn, hfn⟩ : ∃ fn, Tryd.prog.funcs[47]? = some fn := ⟨_, rfl⟩
  have FN : Hid (MV (w.alloc (.map es cl)) w.heap.size n f ∧ Below w.heap.size w (w.alloc (.map es cl))) := ⟨⟨D, ⟨es, cl, (MapKept.heap_alloc w _).1, h2⟩, h3⟩, (Below.refl _ _).alloc (Nat.le_refl _) _⟩
  have EX : Sem.run Tryd.prog (callFunc 47 #[.iface 64 (.map (some b))]) w = .ok (.value (.iface 64 (.map (some w.heap.size)))) (w.alloc (.map es cl)) := by
    rw [run_callFunc_extern (f := 47) (fn := _) (e := Extern.MapsClone.clone) rfl (by kernel_rfl) (by kernel_rfl) (by kernel_rfl) (by kernel_rfl), run_maps_clone_sl w 64 h1]
    rfl
  clear h2 h3 hfn
  go_enter Tryd.func34, Tryd.ntmps34
  go_wp2
  rw [run_typeAssert_map_sl _ 64 _ _ _ _ Tryd.underlying64]
  simp only [Result.andThen]
  rw [Oper.upon_value]
  go_wp2
  go_ret
  exact ⟨rfl, FN.out⟩
/-- A whole provider written. -/
theorem OwnG.setP {w : World} {base g n cap : Nat} {l : List Pvx} (h : OwnG KP w base (.slice (some ⟨g, 0, none⟩) n cap) l) {k : Nat} (hk : k < l.length) (x : Pvx) :
    OwnG KP (((((((((w.setCell ⟨g, k * 9, none⟩ (.string x.p.name)).setCell ⟨g, k * 9 + 1, none⟩ (.slice x.q x.p.ops.length x.c)).setCell ⟨g, k * 9 + 2, none⟩ (.bool x.p.again)).setCell ⟨g, k * 9 + 3, none⟩ (.int .i64 x.p.pol.t)).setCell ⟨g, k * 9 + 4, none⟩ (.int .i64 x.p.pol.b)).setCell ⟨g, k * 9 + 5, none⟩ (.int .i64 x.p.pol.f)).setCell ⟨g, k * 9 + 6, none⟩ (.int .i64 x.p.pol.c)).setCell ⟨g, k * 9 + 7, none⟩ (.int .i64 x.p.ck)).setCell ⟨g, k * 9 + 8, none⟩ (.string x.p.ct)) base (.slice (some ⟨g, 0, none⟩) n cap) (l.set k x) := by
  obtain ⟨y, hy⟩ : ∃ y, y = l[k] := ⟨_, rfl⟩
  have h1 := h.setW KP_ok.len hk (j := 0) (by decide) ⟨⟨x.p.name, y.p.ops, y.p.again, ⟨y.p.pol.t, y.p.pol.b, y.p.pol.f, y.p.pol.c⟩, y.p.ck, y.p.ct⟩, y.q, y.c⟩ (.string x.p.name) (by rw [← hy]; rfl)
  have h2 := h1.setW KP_ok.len (k := k) (by simpa using hk) (j := 1) (by decide) ⟨⟨x.p.name, x.p.ops, y.p.again, ⟨y.p.pol.t, y.p.pol.b, y.p.pol.f, y.p.pol.c⟩, y.p.ck, y.p.ct⟩, x.q, x.c⟩ (.slice x.q x.p.ops.length x.c) (by rw [List.getElem_set_self]; rfl)
  have h3 := h2.setW KP_ok.len (k := k) (by simpa using hk) (j := 2) (by decide) ⟨⟨x.p.name, x.p.ops, x.p.again, ⟨y.p.pol.t, y.p.pol.b, y.p.pol.f, y.p.pol.c⟩, y.p.ck, y.p.ct⟩, x.q, x.c⟩ (.bool x.p.again) (by rw [List.getElem_set_self]; rfl)
  have h4 := h3.setW KP_ok.len (k := k) (by simpa using hk) (j := 3) (by decide) ⟨⟨x.p.name, x.p.ops, x.p.again, ⟨x.p.pol.t, y.p.pol.b, y.p.pol.f, y.p.pol.c⟩, y.p.ck, y.p.ct⟩, x.q, x.c⟩ (.int .i64 x.p.pol.t) (by rw [List.getElem_set_self]; rfl)
  have h5 := h4.setW KP_ok.len (k := k) (by simpa using hk) (j := 4) (by decide) ⟨⟨x.p.name, x.p.ops, x.p.again, ⟨x.p.pol.t, x.p.pol.b, y.p.pol.f, y.p.pol.c⟩, y.p.ck, y.p.ct⟩, x.q, x.c⟩ (.int .i64 x.p.pol.b) (by rw [List.getElem_set_self]; rfl)
  have h6 := h5.setW KP_ok.len (k := k) (by simpa using hk) (j := 5) (by decide) ⟨⟨x.p.name, x.p.ops, x.p.again, ⟨x.p.pol.t, x.p.pol.b, x.p.pol.f, y.p.pol.c⟩, y.p.ck, y.p.ct⟩, x.q, x.c⟩ (.int .i64 x.p.pol.f) (by rw [List.getElem_set_self]; rfl)
  have h7 := h6.setW KP_ok.len (k := k) (by simpa using hk) (j := 6) (by decide) ⟨⟨x.p.name, x.p.ops, x.p.again, ⟨x.p.pol.t, x.p.pol.b, x.p.pol.f, x.p.pol.c⟩, y.p.ck, y.p.ct⟩, x.q, x.c⟩ (.int .i64 x.p.pol.c) (by rw [List.getElem_set_self]; rfl)
  have h8 := h7.setW KP_ok.len (k := k) (by simpa using hk) (j := 7) (by decide) ⟨⟨x.p.name, x.p.ops, x.p.again, ⟨x.p.pol.t, x.p.pol.b, x.p.pol.f, x.p.pol.c⟩, x.p.ck, y.p.ct⟩, x.q, x.c⟩ (.int .i64 x.p.ck) (by rw [List.getElem_set_self]; rfl)
  have h9 := h8.setW KP_ok.len (k := k) (by simpa using hk) (j := 8) (by decide) x (.string x.p.ct) (by rw [List.getElem_set_self]; rfl)
  simp only [List.set_set] at h9
  exact h9
end Go.Proofs.YtffabehipcomfaaDoor
