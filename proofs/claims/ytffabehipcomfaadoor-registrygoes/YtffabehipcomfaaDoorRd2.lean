/- Registry, the document's side: Add. -/
import Derived.Test.YtffabehipcomfaaDoorRd1
import Derived.OwnWalk
namespace Go.Proofs.YtffabehipcomfaaDoor
open Go.RowKit Go.Maps

/-- A row of whatever length appended, at a step of a region that draws its order. -/
theorem step_append_any {α : Type} {P : Program} (K : RK α) (hk : K.Ok P) {ops : Array Oper} {o : Oper} {a : Act} {C : Act → World → Prop} {Q : Exit → Act → World → Prop} {E : Prop} (hgd : o.guard = none) (s x : Operand) (t : TypeId)
    (ho : o.op = .call { callee := .builtin .append, args := #[s, x], argTypes := #[t, t] })
    (base : Nat) (ht : P.underlying t = some (.slice K.ty))
    (w1 : World) (v vx : Value) (l m : List α) (hs : a.eval s = v) (hown : OwnG K w1 base v l) (hx : a.eval x = vx) (hm : GS K w1 vx m)
    (hlen : (l.length + m.length) * K.B ≤ 140737488355328) (hbase : base ≤ w1.heap.size)
    (h : ∀ v' w', OwnG K w' base v' (l ++ m) → Below base w1 w' → (∀ k, k < w1.heap.size → some k ≠ v.ownBlock → w'.heap[k]? = w1.heap[k]?) → C (a.put o.dst v') w') :
    if Region.wanted o (yielded ops a.tmps) = true then Oper.wp P o a w1 C Q else E := by
  obtain ⟨i0, hi0, hz0, hz1, hz2⟩ := hk.info
  have hpb := hk.posB
  have hlm : l.length + m.length ≤ 140737488355328 := Nat.le_trans (Nat.le_mul_of_pos_right _ hpb) hlen
  have hw : Region.wanted o (yielded ops a.tmps) = true := by simp [Region.wanted, hgd]
  rw [if_pos hw]
  have hm0 := hm
  rcases hm with ⟨rfl | ⟨ad, cap, rfl⟩, hmn⟩ | ⟨X, ox, cap, rfl, _⟩
  · subst hmn
    have hrun := run_append_owned_none (P := P) (w := w1) base t o.type K.ty i0 K.W ht hi0 v l.length (l.flatMap K.f) hown
    unfold Oper.wp
    simp [execOp, ho, resolve, invoke, builtin, hs, hx, hrun, Result.andThen]
    exact h v w1 (by rw [List.append_nil]; exact hown) (Below.refl _ _) (fun _ _ _ => rfl)
  · subst hmn
    refine wp_append_own w1 s x t ho base K.ty i0 K.z K.W K.B ht hi0 hz0 hz1 hz2 hk.zs hk.pos v l.length (l.flatMap K.f) hs hown ad 0 cap [] hx (by simp) (fun j u hj => by simp at hj) (fun u hu => by cases hu)
      (by unfold maxLen; simp at hlm; omega) (by simpa using hlen) hbase ?_
    intro v' w' ho' hg _
    refine h v' w' ?_ ((Below.refl base w1).grown hg hbase (fun q hq => (hown.lt hq).1)) (fun k hk hne => hg.block k hk hne)
    unfold OwnG
    rw [List.append_nil]
    simpa using ho'
  · have one : ∀ u ∈ m.flatMap K.f, u.oneCell' = true := fun u hu => by
      obtain ⟨f, _, hf⟩ := List.mem_flatMap.1 hu
      exact hk.one f u hf
    refine wp_append_own w1 s x t ho base K.ty i0 K.z K.W K.B ht hi0 hz0 hz1 hz2 hk.zs hk.pos v l.length (l.flatMap K.f) hs hown ⟨X, ox, none⟩ m.length cap (m.flatMap K.f) hx (RK.flat_len hk.len m) (hm0.news hk.len hk.pos) one
      (by unfold maxLen; omega) hlen hbase ?_
    intro v' w' ho' hg _
    refine h v' w' ?_ ((Below.refl base w1).grown hg hbase (fun q hq => (hown.lt hq).1)) (fun k hk hne => hg.block k hk hne)
    unfold OwnG
    rw [List.length_append, List.flatMap_append]
    exact ho'
theorem own_empty {w : World} {b base : Nat} (h : w.heap[b]? = some (.cells #[] 37)) (hb : base ≤ b) : OwnG KP w base (.slice (some ⟨b, 0, none⟩) 0 0) [] :=
  ⟨by simp, Or.inr ⟨b, 0, #[], rfl, hb, h, Nat.le_refl _, Nat.zero_le _, by simp, by simp⟩⟩
theorem gs_one {w : World} {b : Nat} {x : Pvx} (h : w.heap[b]? = some (.cells (pvxC x).toArray 37)) : GS KP w (.slice (some ⟨b, 0, none⟩) 1 1) [x] := by
  refine Or.inr ⟨b, 0, 1, rfl, lt_heap h, Nat.le_refl _, fun k hk j u hu => ?_⟩
  obtain rfl : k = 0 := by simpa using hk
  rw [cell_of_row _ _ _ _ _ _ h]
  have hu' : (pvxC x)[j]? = some u := hu
  simpa using hu'
theorem hnew {W : World} {o : Obj} {b : Nat} (h : b = W.heap.size) : (W.alloc o).heap[b]? = some o := by rw [h]; exact heap_alloc_new _ _
theorem hold {W : World} {o x : Obj} {b : Nat} (hx : W.heap[b]? = some x) : (W.alloc o).heap[b]? = some x := (Below.heap_alloc _ _ _ (lt_heap hx)).trans hx
theorem keepKO {w w' : World} {base base2 : Nat} {v ve : Value} {l : List Opn} {M : List Pvx} (o : OwnG KO w base v l) (oe : OwnG KP w base2 ve M) (k : ∀ g, g < w.heap.size → some g ≠ ve.ownBlock → w'.heap[g]? = w.heap[g]?) : OwnG KO w' base v l := o.far (fun g hg => k g (o.lt hg).2 (own_apart (by decide) o oe hg))
/-- What the document's Add answers: a registry of the same row, or of a new one. -/
structure RAd (w w' : World) (v v' : Value) (L : List Pvx) (fz : Bool) (p : Prv) : Prop where
  no : addE (pL L) fz p ≠ 0 → v' = v
  yes : addE (pL L) fz p = 0 → ∃ q c, OwnG KP w' w.heap.size v' (L ++ [⟨p, q, c⟩]) ∧ OwnG KO w' w.heap.size (.slice q p.ops.length c) p.ops
  bl : Below w.heap.size w w'
theorem RAd.nope {w w' : World} {v : Value} {L : List Pvx} {fz : Bool} {p : Prv} (b : Below w.heap.size w w') (he : addE (pL L) fz p ≠ 0) : RAd w w' v v L fz p := ⟨fun _ => rfl, fun e => absurd e he, b⟩
theorem RAd.yeah {w w' w3 : World} {v v' : Value} {L : List Pvx} {fz : Bool} {p : Prv} {q : Option Addr} {c : Nat} (he : addE (pL L) fz p = 0) (b : Below w.heap.size w w') (b3 : Below w.heap.size w w3) (o : OwnG KP w' w3.heap.size v' (L ++ [⟨p, q, c⟩])) (oc : OwnG KO w' w3.heap.size (.slice q p.ops.length c) p.ops) : RAd w w' v v' L fz p :=
  ⟨fun e => absurd he e, fun _ => ⟨q, c, o.low b3.size, oc.low b3.size⟩, b⟩
set_option maxHeartbeats 16000000 in
set_option maxRecDepth 100000 in
theorem radd_any (v : Value) (L : List Pvx) (fz : Bool) (p : Prv) (ve : Value) (w : World) (h : PR w v L) (hl : L.length ≤ 256) (hp : PS w p ve) :
    Calls Tryd.prog 19 #[.agg #[v, .bool fz], prvV p ve] w fun e w' => ∃ v', e = .returned (.tuple #[.agg #[v', .bool fz], .int .i64 (addN (pL L) fz p : Nat), .int .i64 (addE (pL L) fz p)]) ∧ RAd w w' v v' L fz p := by
  have AL : Hid (∀ a b c, Below w.heap.size w (((w.alloc a).alloc b).alloc c)) := fun a b c => blr (balr _ a) (blr (balr _ b) (balr _ c))
  have HPR := hidr h
  have HPS := hidr hp
  obtain ⟨pv, cv, rfl⟩ := h.gs.form
  obtain ⟨pe, ce, hve⟩ := hp.os.form
  subst hve
  have BX : Hid (∀ W, W = (((w.alloc (.cells #[.slice pv L.length cv, .bool fz] 26)).alloc (.cells (prvC p (.slice pe p.ops.length ce)) 37)).alloc (.cells #[.slice none 0 0, .bool false] 26)) → YB W w.heap.size (.slice pv L.length cv) fz ∧ PBx W (w.heap.size + 1) p (.slice pe p.ops.length ce) ∧ YB W (w.heap.size + 1 + 1) (.slice none 0 0) false) := fun W hW => by
    subst hW
    refine ⟨hold (hold (hnew rfl)), hold (hnew (by simp)), hnew (by simp)⟩
  have BXb : Hid (∀ W W', (YB W w.heap.size (.slice pv L.length cv) fz ∧ PBx W (w.heap.size + 1) p (.slice pe p.ops.length ce) ∧ YB W (w.heap.size + 1 + 1) (.slice none 0 0) false) → Below W.heap.size W W' → (YB W' w.heap.size (.slice pv L.length cv) fz ∧ PBx W' (w.heap.size + 1) p (.slice pe p.ops.length ce) ∧ YB W' (w.heap.size + 1 + 1) (.slice none 0 0) false)) := fun W W' hh b => ⟨hh.1.below b, hh.2.1.below b, hh.2.2.below b⟩
  have NO := hidr (fun w' (b : Below w.heap.size w w') (he : addE (pL L) fz p ≠ 0) => (RAd.nope b he : RAd w w' (.slice pv L.length cv) (.slice pv L.length cv) L fz p))
  have CK := hidr (fun W (b : Below w.heap.size w W) => rcheckProv_any p _ W (hp.below b))
  have FD := hidr (fun W (b : Below w.heap.size w W) => rfind_any _ L fz p.name W (h.below b) hl)
  have PY : Hid (∀ W b, PBx W b p (.slice pe p.ops.length ce) → _) := fun W b h => PBx.cells h
  have HE : Hid (addE (pL L) fz p = if fz = true then 7 else if prvE p ≠ 0 then prvE p else if idxN (nameL (pL L)) p.name < (nameL (pL L)).length then 6 else if 256 ≤ (pL L).length then 3 else 0) := rfl
  have HN : Hid (addN (pL L) fz p = if addE (pL L) fz p = 0 then L.length else 0) := by show _ = _; unfold addN; rw [pL_len]
  have HF : Hid (fndE (nameL (pL L)) p.name = if idxN (nameL (pL L)) p.name < (nameL (pL L)).length then 0 else 4) := rfl
  have YES := hidr (fun (w' w3 : World) (v' : Value) (q : Option Addr) (c : Nat) (he : addE (pL L) fz p = 0) (b : Below w.heap.size w w') b3 o oc => (RAd.yeah (w3 := w3) (q := q) (c := c) he b b3 o oc : RAd w w' (.slice pv L.length cv) v' L fz p))
  rw [pL_len] at HE
  generalize RAd w = RA at *
  generalize fndN (nameL (pL L)) p.name = fn at *
  generalize fndE (nameL (pL L)) p.name = fe at *
  generalize addN (pL L) fz p = an at *
  generalize addE (pL L) fz p = ae at *
  generalize idxN (nameL (pL L)) p.name = ix at *
  generalize (nameL (pL L)).length = nl at *
  generalize prvE p = rc at *
  obtain ⟨n, hn⟩ : ∃ n, n = L.length := ⟨_, rfl⟩
  have HL := hidr hn
  rw [← hn] at BX BXb NO FD HE HN YES hl ⊢
  obtain ⟨nm, ops, ag, ⟨pt, pb, pf, pc⟩, ck, ct⟩ := p
  simp only [prvV, prvC] at *
  clear h hp hn
  cases fz with
  | true =>
    go_enter Tryd.func19, Tryd.ntmps19
    go_wp2_with fail
    have e7 : ae = 7 := by rw [HE.out]; rfl
    have e0 : an = 0 := by rw [HN.out, e7]; rfl
    refine bodyPost_ret (v := .tuple #[.agg #[.slice pv n cv, .bool true], .int .i64 0, .int .i64 7]) (by simp [results, Tryd.results19, go_sem]) rfl ?_
    exact ⟨_, by rw [e7, e0]; rfl, NO.out _ (AL.out _ _ _) (by rw [e7]; decide)⟩
  | false =>
    have HE2 : Hid (ae = if rc ≠ 0 then rc else if ix < nl then 6 else if 256 ≤ n then 3 else 0) := by show _ = _; rw [HE.out, if_neg (by decide)]
    clear HE
    go_enter Tryd.func19, Tryd.ntmps19
    go_wp2_with fail
    refine (CK.out _ (AL.out _ _ _)).mono ?_
    rintro e w1 ⟨rfl, b1⟩
    have B1 := hidr (blr (AL.out _ _ _) b1)
    have X1 := hidr (BXb.out _ _ (BX.out _ rfl) b1)
    clear b1 CK BX AL
    obtain ⟨c0, c1, cf⟩ := X1.out.1.cells
    obtain ⟨y0, y1, y2, y3, y4, y5, y6, y7, y8⟩ := PY.out _ _ X1.out.2.1
    obtain ⟨z0, z1, zf⟩ := X1.out.2.2.cells
    have SC : Hid (∀ W, Below w.heap.size w W → ∀ u0 u1, Below w.heap.size w ((W.setCell ⟨w.heap.size + 1 + 1, 0, none⟩ u0).setCell ⟨w.heap.size + 1 + 1, 1, none⟩ u1)) := fun W b u0 u1 => (b.setCell (by simp; omega) _).setCell (by simp; omega) _
    have RD : Hid (∀ W, YB W (w.heap.size + 1 + 1) (.slice none 0 0) false → ∀ u0 u1, ((W.setCell ⟨w.heap.size + 1 + 1, 0, none⟩ u0).setCell ⟨w.heap.size + 1 + 1, 1, none⟩ u1).cell? ⟨w.heap.size + 1 + 1, 0, none⟩ = some u0 ∧ ((W.setCell ⟨w.heap.size + 1 + 1, 0, none⟩ u0).setCell ⟨w.heap.size + 1 + 1, 1, none⟩ u1).cell? ⟨w.heap.size + 1 + 1, 1, none⟩ = some u1) := fun W h u0 u1 => by
      have h1 := heap_setCell_same W (w.heap.size + 1 + 1) 0 _ _ u0 h
      have h2 := heap_setCell_same _ (w.heap.size + 1 + 1) 1 _ _ u1 h1
      exact ⟨cell_of_row _ _ _ _ _ _ h2, cell_of_row _ _ _ _ _ _ h2⟩
    by_cases hc : rc = 0
    · have HE3 : Hid (ae = if ix < nl then 6 else if 256 ≤ n then 3 else 0) := by show _ = _; rw [HE2.out, hc, if_neg (by simp)]
      subst hc
      clear HE2
      go_wp2_with fail
      refine (FD.out _ B1.out).mono ?_
      rintro e w2 ⟨rfl, b2⟩
      have B2 := hidr (blr B1.out b2)
      have X2 := hidr (BXb.out _ _ X1.out b2)
      clear b2 FD X1 B1 c0 c1 cf y0 y1 y2 y3 y4 y5 y6 y7 y8 z0 z1 zf
      obtain ⟨c0, c1, cf⟩ := X2.out.1.cells
      obtain ⟨y0, y1, y2, y3, y4, y5, y6, y7, y8⟩ := PY.out _ _ X2.out.2.1
      obtain ⟨z0, z1, zf⟩ := X2.out.2.2.cells
      by_cases hi : ix < nl
      · have ef : fe = 0 := by rw [HF.out, if_pos hi]
        have e7 : ae = 6 := by rw [HE3.out, if_pos hi]
        have e0 : an = 0 := by rw [HN.out, e7]; rfl
        obtain ⟨r0, r1⟩ := RD.out w2 X2.out.2.2 (.slice pv n cv) (.bool false)
        have E9 := hidr (And.intro e7 e0)
        subst ef
        clear HF HE3 HN e7 e0 hi
        go_wp2_with fail
        refine bodyPost_ret (v := .tuple #[.agg #[.slice pv n cv, .bool false], .int .i64 0, .int .i64 6]) (by simp [results, Tryd.results19, go_sem, r0, r1]) rfl ?_
        exact ⟨_, by rw [E9.out.1, E9.out.2]; rfl, NO.out _ (SC.out _ B2.out _ _) (by rw [E9.out.1]; decide)⟩
      · have ef : fe = 4 := by rw [HF.out, if_neg hi]
        subst ef
        by_cases h256 : 256 ≤ n
        · have h1 : (256 : Int) ≤ (n : Int) := by omega
          have e7 : ae = 3 := by rw [HE3.out, if_neg hi, if_pos h256]
          have e0 : an = 0 := by rw [HN.out, e7]; rfl
          obtain ⟨r0, r1⟩ := RD.out w2 X2.out.2.2 (.slice pv n cv) (.bool false)
          have E9 := hidr (And.intro e7 e0)
          clear HF HE3 HN e7 e0 hi
          go_wp2_with fail
          refine bodyPost_ret (v := .tuple #[.agg #[.slice pv n cv, .bool false], .int .i64 0, .int .i64 3]) (by simp [results, Tryd.results19, go_sem, r0, r1]) rfl ?_
          exact ⟨_, by rw [E9.out.1, E9.out.2]; rfl, NO.out _ (SC.out _ B2.out _ _) (by rw [E9.out.1]; decide)⟩
        · have h1 : ¬ (256 : Int) ≤ (n : Int) := by omega
          have e7 : ae = 0 := by rw [HE3.out, if_neg hi, if_neg h256]
          have e0 : an = n := by rw [HN.out, if_pos e7]
          have E9 := hidr (And.intro e7 e0)
          clear HF HE3 HN e7 e0 hi
          go_wp2_with fail
          clear z0 z1 zf c0 c1 cf y0 y1 y2 y3 y4 y5 y6 y7 y8
          have HG : Hid (∀ W, Below w2.heap.size w2 W → GS KP W (.slice pv n cv) L) := fun W b => by have := (HPR.out.below (blr B2.out b)).gs; rw [← HL.out] at this; exact this
          have CP : Hid (∀ W, Below w2.heap.size w2 W → Calls Tryd.prog 13 #[.agg #[.string nm, .slice pe ops.length ce, .bool ag, .int .i64 pt, .int .i64 pb, .int .i64 pf, .int .i64 pc, .int .i64 ck, .string ct]] W fun e w' => ∃ q c, e = .returned (.agg #[.string nm, .slice q ops.length c, .bool ag, .int .i64 pt, .int .i64 pb, .int .i64 pf, .int .i64 pc, .int .i64 ck, .string ct]) ∧ OwnG KO w' w2.heap.size (.slice q ops.length c) ops ∧ Below W.heap.size W w') := fun W b => by
            refine (copyProv_any _ _ W (HPS.out.below (blr B2.out b))).mono ?_
            rintro e w' ⟨q, c, rfl, o, b'⟩
            exact ⟨q, c, rfl, o.low b.size, b'⟩
          have CL : Hid (∀ W, Below w2.heap.size w2 W → (W.cell? ⟨w.heap.size, 0, none⟩ = some (.slice pv n cv) ∧ W.cell? ⟨w.heap.size, 1, none⟩ = some (.bool false) ∧ W.cell? ⟨w.heap.size + 1, 0, none⟩ = some (.string nm) ∧ W.cell? ⟨w.heap.size + 1, 1, none⟩ = some (.slice pe ops.length ce) ∧ W.cell? ⟨w.heap.size + 1, 2, none⟩ = some (.bool ag) ∧ W.cell? ⟨w.heap.size + 1, 3, none⟩ = some (.int .i64 pt) ∧ W.cell? ⟨w.heap.size + 1, 4, none⟩ = some (.int .i64 pb) ∧ W.cell? ⟨w.heap.size + 1, 5, none⟩ = some (.int .i64 pf) ∧ W.cell? ⟨w.heap.size + 1, 6, none⟩ = some (.int .i64 pc) ∧ W.cell? ⟨w.heap.size + 1, 7, none⟩ = some (.int .i64 ck) ∧ W.cell? ⟨w.heap.size + 1, 8, none⟩ = some (.string ct))) := fun W b => by
            have x := BXb.out _ _ X2.out b
            obtain ⟨h0, h1, _⟩ := x.1.cells
            obtain ⟨a0, a1, a2, a3, a4, a5, a6, a7, a8⟩ := PY.out _ _ x.2.1
            exact ⟨h0, h1, a0, a1, a2, a3, a4, a5, a6, a7, a8⟩
          have CZ : Hid (∀ W, Below w2.heap.size w2 W → W.cell? ⟨w.heap.size + 1 + 1, 0, none⟩ = some (.slice none 0 0) ∧ W.cell? ⟨w.heap.size + 1 + 1, 1, none⟩ = some (.bool false) ∧ (∀ o, W.frozen? ⟨w.heap.size + 1 + 1, o, none⟩ = false) ∧ YB W (w.heap.size + 1 + 1) (.slice none 0 0) false) := fun W b => by
            have x := BXb.out _ _ X2.out b
            obtain ⟨h0, h1, h2⟩ := x.2.2.cells
            exact ⟨h0, h1, h2, x.2.2⟩
          have SF : Hid (∀ (W : World) (u0 u1 : Value), (W.cell? ⟨w.heap.size, 0, none⟩ = some (.slice pv n cv) ∧ W.cell? ⟨w.heap.size, 1, none⟩ = some (.bool false) ∧ W.cell? ⟨w.heap.size + 1, 0, none⟩ = some (.string nm) ∧ W.cell? ⟨w.heap.size + 1, 1, none⟩ = some (.slice pe ops.length ce) ∧ W.cell? ⟨w.heap.size + 1, 2, none⟩ = some (.bool ag) ∧ W.cell? ⟨w.heap.size + 1, 3, none⟩ = some (.int .i64 pt) ∧ W.cell? ⟨w.heap.size + 1, 4, none⟩ = some (.int .i64 pb) ∧ W.cell? ⟨w.heap.size + 1, 5, none⟩ = some (.int .i64 pf) ∧ W.cell? ⟨w.heap.size + 1, 6, none⟩ = some (.int .i64 pc) ∧ W.cell? ⟨w.heap.size + 1, 7, none⟩ = some (.int .i64 ck) ∧ W.cell? ⟨w.heap.size + 1, 8, none⟩ = some (.string ct)) → (((W.setCell ⟨w.heap.size + 1 + 1, 0, none⟩ u0).setCell ⟨w.heap.size + 1 + 1, 1, none⟩ u1).cell? ⟨w.heap.size, 0, none⟩ = some (.slice pv n cv) ∧ ((W.setCell ⟨w.heap.size + 1 + 1, 0, none⟩ u0).setCell ⟨w.heap.size + 1 + 1, 1, none⟩ u1).cell? ⟨w.heap.size, 1, none⟩ = some (.bool false) ∧ ((W.setCell ⟨w.heap.size + 1 + 1, 0, none⟩ u0).setCell ⟨w.heap.size + 1 + 1, 1, none⟩ u1).cell? ⟨w.heap.size + 1, 0, none⟩ = some (.string nm) ∧ ((W.setCell ⟨w.heap.size + 1 + 1, 0, none⟩ u0).setCell ⟨w.heap.size + 1 + 1, 1, none⟩ u1).cell? ⟨w.heap.size + 1, 1, none⟩ = some (.slice pe ops.length ce) ∧ ((W.setCell ⟨w.heap.size + 1 + 1, 0, none⟩ u0).setCell ⟨w.heap.size + 1 + 1, 1, none⟩ u1).cell? ⟨w.heap.size + 1, 2, none⟩ = some (.bool ag) ∧ ((W.setCell ⟨w.heap.size + 1 + 1, 0, none⟩ u0).setCell ⟨w.heap.size + 1 + 1, 1, none⟩ u1).cell? ⟨w.heap.size + 1, 3, none⟩ = some (.int .i64 pt) ∧ ((W.setCell ⟨w.heap.size + 1 + 1, 0, none⟩ u0).setCell ⟨w.heap.size + 1 + 1, 1, none⟩ u1).cell? ⟨w.heap.size + 1, 4, none⟩ = some (.int .i64 pb) ∧ ((W.setCell ⟨w.heap.size + 1 + 1, 0, none⟩ u0).setCell ⟨w.heap.size + 1 + 1, 1, none⟩ u1).cell? ⟨w.heap.size + 1, 5, none⟩ = some (.int .i64 pf) ∧ ((W.setCell ⟨w.heap.size + 1 + 1, 0, none⟩ u0).setCell ⟨w.heap.size + 1 + 1, 1, none⟩ u1).cell? ⟨w.heap.size + 1, 6, none⟩ = some (.int .i64 pc) ∧ ((W.setCell ⟨w.heap.size + 1 + 1, 0, none⟩ u0).setCell ⟨w.heap.size + 1 + 1, 1, none⟩ u1).cell? ⟨w.heap.size + 1, 7, none⟩ = some (.int .i64 ck) ∧ ((W.setCell ⟨w.heap.size + 1 + 1, 0, none⟩ u0).setCell ⟨w.heap.size + 1 + 1, 1, none⟩ u1).cell? ⟨w.heap.size + 1, 8, none⟩ = some (.string ct))) := fun W u0 u1 h => by
            have k : ∀ b o, b ≠ w.heap.size + 1 + 1 → ((W.setCell ⟨w.heap.size + 1 + 1, 0, none⟩ u0).setCell ⟨w.heap.size + 1 + 1, 1, none⟩ u1).cell? ⟨b, o, none⟩ = W.cell? ⟨b, o, none⟩ := fun b o hb => World.cell?_of_block ((Below.heap_setCell _ _ _ _ hb).trans (Below.heap_setCell _ _ _ _ hb))
            obtain ⟨h0, h1, h2, h3, h4, h5, h6, h7, h8, h9, h10⟩ := h
            exact ⟨(k _ _ (by omega)).trans h0, (k _ _ (by omega)).trans h1, (k _ _ (by omega)).trans h2, (k _ _ (by omega)).trans h3, (k _ _ (by omega)).trans h4, (k _ _ (by omega)).trans h5, (k _ _ (by omega)).trans h6, (k _ _ (by omega)).trans h7, (k _ _ (by omega)).trans h8, (k _ _ (by omega)).trans h9, (k _ _ (by omega)).trans h10⟩
          have BD : Hid (Below w2.heap.size w2 w2.drew) := (Below.refl _ _).drew
          obtain ⟨ka, kb, k0, k1, k2, k3, k4, k5, k6, k7, k8⟩ := CL.out _ BD.out
          have LE1 : Hid ((([] : List Pvx).length + L.length) * KP.B ≤ 140737488355328) := by show (_ + _) * 104 ≤ _; have := HL.out; simp; omega
          have LE2 : Hid (∀ x : Pvx, (([] ++ L : List Pvx).length + [x].length) * KP.B ≤ 140737488355328) := fun x => by show (_ + _) * 104 ≤ _; have := HL.out; simp; omega
          have EM : ∀ x : List Pvx, ([] ++ x) = x := fun _ => rfl
          go_region_held3 (fun w' => w'.cell? ⟨w.heap.size, 0, none⟩ = some (.slice pv n cv) ∧ w'.cell? ⟨w.heap.size, 1, none⟩ = some (.bool false) ∧ w'.cell? ⟨w.heap.size + 1, 0, none⟩ = some (.string nm) ∧ w'.cell? ⟨w.heap.size + 1, 1, none⟩ = some (.slice pe ops.length ce) ∧ w'.cell? ⟨w.heap.size + 1, 2, none⟩ = some (.bool ag) ∧ w'.cell? ⟨w.heap.size + 1, 3, none⟩ = some (.int .i64 pt) ∧ w'.cell? ⟨w.heap.size + 1, 4, none⟩ = some (.int .i64 pb) ∧ w'.cell? ⟨w.heap.size + 1, 5, none⟩ = some (.int .i64 pf) ∧ w'.cell? ⟨w.heap.size + 1, 6, none⟩ = some (.int .i64 pc) ∧ w'.cell? ⟨w.heap.size + 1, 7, none⟩ = some (.int .i64 ck) ∧ w'.cell? ⟨w.heap.size + 1, 8, none⟩ = some (.string ct)) (first | exact SF.out _ _ _ (CL.out _ B9.out) | exact CL.out _ (balr w2 _).drew | exact CL.out _ (blr BC.out (balr _ _)) | exact CL.out _ (blr BC.out (blr (balr _ _) (balr _ _))) | exact CL.out _ (blr BA.out (balr _ _)) | go_keep) (first
            | (refine step_append_any KP KP_ok (by rfl) (.tmp 36) (.tmp 38) 24 (by rfl) w2.heap.size Tryd.underlying24 _ (.slice (some ⟨w2.heap.size, 0, none⟩) 0 0) (.slice pv n cv) [] L (by rfl)
                (by exact own_empty (heap_alloc_new w2 _) (Nat.le_refl _)) (by rfl) (HG.out _ (by exact (balr w2 _).drew)) LE1.out (by exact ((balr w2 _).drew : Below w2.heap.size w2 _).size) ?_
               intro v8 w8 o8 b8 k8
               have BA := hidr (show Below w2.heap.size w2 w8 from ((balr w2 _).drew).trans b8)
               have BL := hidr BA.out
               obtain ⟨p8, cp8, rfl, _⟩ := o8.form
               have OA := hidr o8
               obtain ⟨ma, mb, m0, m1, m2, m3, m4, m5, m6, m7, m8⟩ := CL.out _ BA.out
               clear o8 b8 k8)
            | (refine step_append_any KP KP_ok (by rfl) (.tmp 36) (.tmp 38) 24 (by rfl) w2.heap.size Tryd.underlying24 _ (.slice (some ⟨w2.heap.size, 0, none⟩) 0 0) (.slice pv n cv) [] L (by rfl)
                (by exact own_empty eE.out (Nat.le_refl _)) (by rfl) (HG.out _ (by exact BC.out)) LE1.out (by exact (BC.out : Below w2.heap.size w2 _).size) ?_
               intro v8 w8 o8 b8 k8
               have BA := hidr (show Below w2.heap.size w2 w8 from (BC.out).trans b8)
               have BL := hidr BA.out
               have OC := hidr (show OwnG KO w8 w2.heap.size (.slice q ops.length c) ops from keepKO (OC.out) (own_empty eE.out (Nat.le_refl w2.heap.size)) k8)
               obtain ⟨p8, cp8, rfl, _⟩ := o8.form
               have OA := hidr o8
               obtain ⟨ma, mb, m0, m1, m2, m3, m4, m5, m6, m7, m8⟩ := CL.out _ BA.out
               clear o8 b8 k8)
            | (refine step_append_any KP KP_ok (by rfl) (.tmp 36) (.tmp 38) 24 (by rfl) w2.heap.size Tryd.underlying24 _ (.slice (some ⟨w2.heap.size, 0, none⟩) 0 0) (.slice pv n cv) [] L (by rfl)
                (by exact own_empty (hold eE.out) (Nat.le_refl _)) (by rfl) (HG.out _ (by exact blr BC.out (balr w5 _))) LE1.out (by exact (blr BC.out (balr w5 _) : Below w2.heap.size w2 _).size) ?_
               intro v8 w8 o8 b8 k8
               have BA := hidr (show Below w2.heap.size w2 w8 from (blr BC.out (balr w5 _)).trans b8)
               have BL := hidr BA.out
               have eE0 := eE.out
               have OC := hidr (show OwnG KO w8 w2.heap.size (.slice q ops.length c) ops from keepKO (OC.out.below (balr w5 _)) (own_empty (hold eE.out) (Nat.le_refl w2.heap.size)) k8)
               have eB := hidr (show w8.heap[w5.heap.size]? = some (.cells (pvxC ⟨⟨nm, ops, ag, ⟨pt, pb, pf, pc⟩, ck, ct⟩, q, c⟩).toArray 37) from (k8 (w5.heap.size) (by simp) (by intro h; have hz := lt_heap eE0; injection h with h; omega)).trans (hnew rfl))
               obtain ⟨p8, cp8, rfl, _⟩ := o8.form
               have OA := hidr o8
               obtain ⟨ma, mb, m0, m1, m2, m3, m4, m5, m6, m7, m8⟩ := CL.out _ BA.out
               clear o8 b8 k8)
            | (refine step_append_any KP KP_ok (by rfl) (.tmp 36) (.tmp 38) 24 (by rfl) w2.heap.size Tryd.underlying24 _ (.slice (some ⟨w5.heap.size, 0, none⟩) 0 0) (.slice pv n cv) [] L (by rfl)
                (by exact own_empty (hnew rfl) BC.out.size) (by rfl) (HG.out _ (by exact blr BC.out (balr w5 _))) LE1.out (by exact (blr BC.out (balr w5 _) : Below w2.heap.size w2 _).size) ?_
               intro v8 w8 o8 b8 k8
               have BA := hidr (show Below w2.heap.size w2 w8 from (blr BC.out (balr w5 _)).trans b8)
               have BL := hidr BA.out
               have OC := hidr (show OwnG KO w8 w2.heap.size (.slice q ops.length c) ops from keepKO (OC.out.below (balr w5 _)) (own_empty (hnew rfl) BC.out.size) k8)
               obtain ⟨p8, cp8, rfl, _⟩ := o8.form
               have OA := hidr o8
               obtain ⟨ma, mb, m0, m1, m2, m3, m4, m5, m6, m7, m8⟩ := CL.out _ BA.out
               clear o8 b8 k8)
            | (refine step_append_any KP KP_ok (by rfl) (.tmp 36) (.tmp 38) 24 (by rfl) w2.heap.size Tryd.underlying24 _ (.slice (some ⟨w5.heap.size, 0, none⟩) 0 0) (.slice pv n cv) [] L (by rfl)
                (by exact own_empty (hold (hnew rfl)) BC.out.size) (by rfl) (HG.out _ (by exact blr BC.out (blr (balr w5 _) (balr _ _)))) LE1.out (by exact (blr BC.out (blr (balr w5 _) (balr _ _)) : Below w2.heap.size w2 _).size) ?_
               intro v8 w8 o8 b8 k8
               have BA := hidr (show Below w2.heap.size w2 w8 from (blr BC.out (blr (balr w5 _) (balr _ _))).trans b8)
               have BL := hidr BA.out
               have eE0 : (w5.alloc (.cells #[] 37)).heap[w5.heap.size]? = _ := hnew rfl
               have OC := hidr (show OwnG KO w8 w2.heap.size (.slice q ops.length c) ops from keepKO (OC.out.below (blr (balr w5 _) (balr _ _))) (own_empty (hold (hnew rfl)) BC.out.size) k8)
               have eB := hidr (show w8.heap[w5.heap.size + 1]? = some (.cells (pvxC ⟨⟨nm, ops, ag, ⟨pt, pb, pf, pc⟩, ck, ct⟩, q, c⟩).toArray 37) from (k8 (w5.heap.size + 1) (by simp) (by intro h; have hz := lt_heap eE0; injection h with h; omega)).trans (hnew (by simp)))
               obtain ⟨p8, cp8, rfl, _⟩ := o8.form
               have OA := hidr o8
               obtain ⟨ma, mb, m0, m1, m2, m3, m4, m5, m6, m7, m8⟩ := CL.out _ BA.out
               clear o8 b8 k8)
            | (refine step_append_any KP KP_ok (by rfl) (.tmp 36) (.tmp 38) 24 (by rfl) w2.heap.size Tryd.underlying24 _ (.slice (some ⟨w5.heap.size + 1, 0, none⟩) 0 0) (.slice pv n cv) [] L (by rfl)
                (by exact own_empty (hnew (by simp)) (by have := BC.out.size; omega)) (by rfl) (HG.out _ (by exact blr BC.out (blr (balr w5 _) (balr _ _)))) LE1.out (by exact (blr BC.out (blr (balr w5 _) (balr _ _)) : Below w2.heap.size w2 _).size) ?_
               intro v8 w8 o8 b8 k8
               have BA := hidr (show Below w2.heap.size w2 w8 from (blr BC.out (blr (balr w5 _) (balr _ _))).trans b8)
               have BL := hidr BA.out
               have eE0 : (w5.alloc (.cells #[] 37)).heap[w5.heap.size]? = _ := hnew rfl
               have OC := hidr (show OwnG KO w8 w2.heap.size (.slice q ops.length c) ops from keepKO (OC.out.below (blr (balr w5 _) (balr _ _))) ((own_empty (hnew (by simp)) (by have := BC.out.size; omega) : OwnG KP _ w2.heap.size (.slice (some ⟨w5.heap.size + 1, 0, none⟩) 0 0) [])) k8)
               have eB := hidr (show w8.heap[w5.heap.size]? = some (.cells (pvxC ⟨⟨nm, ops, ag, ⟨pt, pb, pf, pc⟩, ck, ct⟩, q, c⟩).toArray 37) from (k8 (w5.heap.size) (by simp; omega) (by intro h; injection h with h; omega)).trans (hold (hnew rfl)))
               obtain ⟨p8, cp8, rfl, _⟩ := o8.form
               have OA := hidr o8
               obtain ⟨ma, mb, m0, m1, m2, m3, m4, m5, m6, m7, m8⟩ := CL.out _ BA.out
               clear o8 b8 k8)
            | (refine step_append_any KP KP_ok (by rfl) (.tmp 39) (.tmp 42) 24 (by rfl) w2.heap.size Tryd.underlying24 _ _ (.slice (some ⟨w5.heap.size, 0, none⟩) 1 1) ([] ++ L) [⟨⟨nm, ops, ag, ⟨pt, pb, pf, pc⟩, ck, ct⟩, q, c⟩] (by rfl)
                (by exact OA.out.below (balr w5 _)) (by rfl) (by exact gs_one (hnew rfl)) (LE2.out _) (by exact (blr BC.out (balr w5 _) : Below w2.heap.size w2 _).size) ?_
               intro v9 w9 o9 b9 k9
               have HC9 := hidr (show OwnG KO w9 w2.heap.size (.slice q ops.length c) ops from keepKO (OC.out.below (balr w5 _)) (OA.out.below (balr w5 _)) k9)
               have B9 := hidr (show Below w2.heap.size w2 w9 from (blr BC.out (balr w5 _)).trans b9)
               obtain ⟨p9, cp9, rfl, _⟩ := o9.form
               have O9 := hidr o9
               obtain ⟨ua, ub, u0, u1, u2, u3, u4, u5, u6, u7, u8⟩ := CL.out _ B9.out
               obtain ⟨z0, z1, zf, zy⟩ := CZ.out _ B9.out
               clear o9 b9 k9)
            | (refine step_append_any KP KP_ok (by rfl) (.tmp 39) (.tmp 42) 24 (by rfl) w2.heap.size Tryd.underlying24 _ _ (.slice (some ⟨w8.heap.size, 0, none⟩) 1 1) ([] ++ L) [⟨⟨nm, ops, ag, ⟨pt, pb, pf, pc⟩, ck, ct⟩, q, c⟩] (by rfl)
                (by exact OA.out.below (balr w8 _)) (by rfl) (by exact gs_one (hnew rfl)) (LE2.out _) (by exact (blr BA.out (balr w8 _) : Below w2.heap.size w2 _).size) ?_
               intro v9 w9 o9 b9 k9
               have HC9 := hidr (show OwnG KO w9 w2.heap.size (.slice q ops.length c) ops from keepKO (OC.out.below (balr w8 _)) (OA.out.below (balr w8 _)) k9)
               have B9 := hidr (show Below w2.heap.size w2 w9 from (blr BA.out (balr w8 _)).trans b9)
               obtain ⟨p9, cp9, rfl, _⟩ := o9.form
               have O9 := hidr o9
               obtain ⟨ua, ub, u0, u1, u2, u3, u4, u5, u6, u7, u8⟩ := CL.out _ B9.out
               obtain ⟨z0, z1, zf, zy⟩ := CZ.out _ B9.out
               clear o9 b9 k9)
            | (refine step_append_any KP KP_ok (by rfl) (.tmp 39) (.tmp 42) 24 (by rfl) w2.heap.size Tryd.underlying24 _ _ (.slice (some ⟨w5.heap.size, 0, none⟩) 1 1) ([] ++ L) [⟨⟨nm, ops, ag, ⟨pt, pb, pf, pc⟩, ck, ct⟩, q, c⟩] (by rfl)
                (by exact OA.out) (by rfl) (by exact gs_one eB.out) (LE2.out _) (by exact (BA.out : Below w2.heap.size w2 _).size) ?_
               intro v9 w9 o9 b9 k9
               have HC9 := hidr (show OwnG KO w9 w2.heap.size (.slice q ops.length c) ops from keepKO OC.out OA.out k9)
               have B9 := hidr (show Below w2.heap.size w2 w9 from (BA.out).trans b9)
               obtain ⟨p9, cp9, rfl, _⟩ := o9.form
               have O9 := hidr o9
               obtain ⟨ua, ub, u0, u1, u2, u3, u4, u5, u6, u7, u8⟩ := CL.out _ B9.out
               obtain ⟨z0, z1, zf, zy⟩ := CZ.out _ B9.out
               clear o9 b9 k9)
            | (refine step_append_any KP KP_ok (by rfl) (.tmp 39) (.tmp 42) 24 (by rfl) w2.heap.size Tryd.underlying24 _ _ (.slice (some ⟨w5.heap.size + 1, 0, none⟩) 1 1) ([] ++ L) [⟨⟨nm, ops, ag, ⟨pt, pb, pf, pc⟩, ck, ct⟩, q, c⟩] (by rfl)
                (by exact OA.out) (by rfl) (by exact gs_one eB.out) (LE2.out _) (by exact (BA.out : Below w2.heap.size w2 _).size) ?_
               intro v9 w9 o9 b9 k9
               have HC9 := hidr (show OwnG KO w9 w2.heap.size (.slice q ops.length c) ops from keepKO OC.out OA.out k9)
               have B9 := hidr (show Below w2.heap.size w2 w9 from (BA.out).trans b9)
               obtain ⟨p9, cp9, rfl, _⟩ := o9.form
               have O9 := hidr o9
               obtain ⟨ua, ub, u0, u1, u2, u3, u4, u5, u6, u7, u8⟩ := CL.out _ B9.out
               obtain ⟨z0, z1, zf, zy⟩ := CZ.out _ B9.out
               clear o9 b9 k9)
            | (go_at_call 13; refine (CP.out _ (by exact BD.out)).mono ?_; rintro e w5 ⟨q, c, rfl, o5, b5⟩; have BC := hidr (show Below w2.heap.size w2 w5 from blr (BD.out) b5); have OC := hidr o5; obtain ⟨da, db, d0, d1, d2, d3, d4, d5, d6, d7, d8⟩ := CL.out _ BC.out; clear o5 b5)
            | (go_at_call 13; refine (CP.out _ (by exact (balr w2 _).drew)).mono ?_; rintro e w5 ⟨q, c, rfl, o5, b5⟩; have BC := hidr (show Below w2.heap.size w2 w5 from blr ((balr w2 _).drew) b5); have OC := hidr o5; have eE := hidr (show w5.heap[w2.heap.size]? = some (.cells #[] 37) from (b5.block w2.heap.size (by simp)).trans (heap_alloc_new w2 (.cells #[] 37))); obtain ⟨da, db, d0, d1, d2, d3, d4, d5, d6, d7, d8⟩ := CL.out _ BC.out; clear o5 b5)
            | (go_at_call 13; refine (CP.out _ (by exact BA.out)).mono ?_; rintro e w5 ⟨q, c, rfl, o5, b5⟩; have BC := hidr (show Below w2.heap.size w2 w5 from blr (BA.out) b5); have OC := hidr o5; have OA := hidr (OA.out.below b5); obtain ⟨da, db, d0, d1, d2, d3, d4, d5, d6, d7, d8⟩ := CL.out _ BC.out; clear o5 b5))
          all_goals
            obtain ⟨r0, r1⟩ := RD.out w9 zy (.slice p9 (L.length + 1) cp9) (.bool false)
            have lt2 : w.heap.size + 1 + 1 < w2.heap.size := lt_heap X2.out.2.2
            have F9 := hidr (YES.out ((w9.setCell ⟨w.heap.size + 1 + 1, 0, none⟩ (.slice p9 (L.length + 1) cp9)).setCell ⟨w.heap.size + 1 + 1, 1, none⟩ (.bool false)) w2 (.slice p9 (L.length + 1) cp9) q c E9.out.1 (SC.out _ (blr B2.out B9.out) _ _) B2.out (by simpa using (O9.out.far fun g hg => by have := (O9.out.lt hg).1; rw [set_far (show g ≠ _ by omega), set_far (show g ≠ _ by omega)])) (HC9.out.far fun g hg => by have := (HC9.out.lt hg).1; rw [set_far (show g ≠ _ by omega), set_far (show g ≠ _ by omega)]))
            clear O9 HC9 OA OC CP HG CL CZ SF BXb RD YES NO PY X2 B9 BA BC
            go_wp2_with fail
            refine bodyPost_ret (v := .tuple #[.agg #[.slice p9 (L.length + 1) cp9, .bool false], .int .i64 n, .int .i64 0]) (by simp [results, Tryd.results19, go_sem, r0, r1]) rfl ?_
            exact ⟨_, by rw [E9.out.1, E9.out.2], F9.out⟩
    · have hc2 : (rc != 0) = true := by simpa using hc
      have e7 : ae = rc := by rw [HE2.out, if_pos hc]
      have e0 : an = 0 := by rw [HN.out, e7, if_neg hc]
      have HC := hidr hc
      obtain ⟨r0, r1⟩ := RD.out w1 X1.out.2.2 (.slice pv n cv) (.bool false)
      have E9 := hidr (And.intro e7 e0)
      clear e7 e0
      go_wp2_with fail
      refine bodyPost_ret (v := .tuple #[.agg #[.slice pv n cv, .bool false], .int .i64 0, .int .i64 rc]) (by simp [results, Tryd.results19, go_sem, r0, r1]) rfl ?_
      exact ⟨_, by rw [E9.out.1, E9.out.2]; rfl, NO.out _ (SC.out _ B1.out _ _) (by rw [E9.out.1]; exact HC.out)⟩
end Go.Proofs.YtffabehipcomfaaDoor
