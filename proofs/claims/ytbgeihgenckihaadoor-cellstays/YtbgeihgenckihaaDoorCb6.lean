/- Cells: outcomes copied. -/
import Derived.Test.YtbgeihgenckihaaDoorCb3
namespace Go.Proofs.YtbgeihgenckihaaDoor
open Go.RowKit

def KC : RK Cr := ⟨79, 3, 32, .agg #[.int .i64 0, .int .i64 0, .string ByteArray.empty], crC⟩
theorem KC_ok : KC.Ok Tryd.prog :=
  ⟨fun _ => rfl, fun x u hu => by simp [KC, crC] at hu; rcases hu with rfl | rfl | rfl <;> rfl, rfl, by decide, by decide, info_parts' (by kernel_rfl)⟩
theorem OwnC.g {w : World} {base : Nat} {v : Value} {l : List Cr} (h : OwnC w base v l) : OwnG KC w base v l := h
theorem ownC_g {w : World} {base : Nat} {v : Value} {l : List Cr} (h : OwnG KC w base v l) : OwnC w base v l := h
theorem cs_gs {w : World} {v : Value} {l : List Cr} (h : CS w v l) : GS KC w v l := by
  rcases h with h | ⟨X, o, cap, rfl, hX, hc, hq⟩
  · exact Or.inl h
  · refine Or.inr ⟨X, o, cap, rfl, hX, hc, fun k hk j u hu => ?_⟩
    obtain ⟨q1, q2, q3⟩ := hq k hk
    have hj : j < 3 := by
      by_cases hlt : j < 3
      · exact hlt
      · rw [List.getElem?_eq_none (by show 3 ≤ j; omega)] at hu; cases hu
    have : j = 0 ∨ j = 1 ∨ j = 2 := by omega
    rcases this with rfl | rfl | rfl
    · injection hu with hu; rw [← hu]; exact q1
    · injection hu with hu; rw [← hu]; exact q2
    · injection hu with hu; rw [← hu]; exact q3
/-- A list more, at a step of a region that draws its order; whatever the list's slice is. -/
theorem step_append_any {α : Type} {P : Program} (K : RK α) (hk : K.Ok P) {ops : Array Oper} {o : Oper} {a : Act} {C : Act → World → Prop} {Q : Exit → Act → World → Prop} {E : Prop} (hgd : o.guard = none) (s x : Operand) (t : TypeId)
    (ho : o.op = .call { callee := .builtin .append, args := #[s, x], argTypes := #[t, t] })
    (base : Nat) (ht : P.underlying t = some (.slice K.ty))
    (w1 : World) (v vx : Value) (l m : List α) (hs : a.eval s = v) (hown : OwnG K w1 base v l) (hx : a.eval x = vx) (hm : GS K w1 vx m)
    (hlen : (l.length + m.length) * K.B ≤ 140737488355328) (hbase : base ≤ w1.heap.size)
    (h : ∀ v' w', OwnG K w' base v' (l ++ m) → Below base w1 w' → (∀ k, k < w1.heap.size → some k ≠ v.ownBlock → w'.heap[k]? = w1.heap[k]?) → C (a.put o.dst v') w') :
    if Region.wanted o (yielded ops a.tmps) = true then Oper.wp P o a w1 C Q else E := by
  obtain ⟨i0, hi0, hz0, hz1, hz2⟩ := hk.info
  have hpb := hk.posB
  have hlm : l.length + m.length ≤ 140737488355328 := Nat.le_trans (Nat.le_mul_of_pos_right _ hpb) hlen
  have hw : Region.wanted o (yielded ops a.tmps) = true := by simp [Region.wanted, hgd]
  rw [if_pos hw]
  have hm0 := hm
  rcases hm with ⟨rfl | ⟨ad, cap, rfl⟩, hmn⟩ | ⟨X, ox, cap, rfl, _⟩
  · subst hmn
    have hrun := run_append_owned_none (P := P) (w := w1) base t o.type K.ty i0 K.W ht hi0 v l.length (l.flatMap K.f) hown
    unfold Oper.wp
    simp [execOp, ho, resolve, invoke, builtin, hs, hx, hrun, Result.andThen]
    exact h v w1 (by rw [List.append_nil]; exact hown) (Below.refl _ _) (fun _ _ _ => rfl)
  · subst hmn
    refine wp_append_own w1 s x t ho base K.ty i0 K.z K.W K.B ht hi0 hz0 hz1 hz2 hk.zs hk.pos v l.length (l.flatMap K.f) hs hown ad 0 cap [] hx (by simp) (fun j u hj => by simp at hj) (fun u hu => by cases hu)
      (by unfold maxLen; simp at hlm; omega) (by simpa using hlen) hbase ?_
    intro v' w' ho' hg _
    refine h v' w' ?_ ((Below.refl base w1).grown hg hbase (fun q hq => (hown.lt hq).1)) (fun k hk hne => hg.block k hk hne)
    unfold OwnG
    rw [List.append_nil]
    simpa using ho'
  · have one : ∀ u ∈ m.flatMap K.f, u.oneCell' = true := fun u hu => by
      obtain ⟨f, _, hf⟩ := List.mem_flatMap.1 hu
      exact hk.one f u hf
    refine wp_append_own w1 s x t ho base K.ty i0 K.z K.W K.B ht hi0 hz0 hz1 hz2 hk.zs hk.pos v l.length (l.flatMap K.f) hs hown ⟨X, ox, none⟩ m.length cap (m.flatMap K.f) hx (RK.flat_len hk.len m) (hm0.news hk.len hk.pos) one
      (by unfold maxLen; omega) hlen hbase ?_
    intro v' w' ho' hg _
    refine h v' w' ?_ ((Below.refl base w1).grown hg hbase (fun q hq => (hown.lt hq).1)) (fun k hk hne => hg.block k hk hne)
    unfold OwnG
    rw [List.length_append, List.flatMap_append]
    exact ho'
theorem heap2 (w : World) (a c : Obj) : ((w.alloc a).alloc c).heap[w.heap.size + 1]? = some c := by
  have := heap_alloc_new (w.alloc a) c
  rw [show (w.alloc a).heap.size = w.heap.size + 1 by simp] at this
  exact this
theorem bel_of {w w' : World} {base : Nat} (h : Below base w w') (k : ∀ k, k < w.heap.size → some k ≠ (Value.slice none 0 0).ownBlock → w'.heap[k]? = w.heap[k]?) : Below w.heap.size w w' := ⟨h.os, h.tape, h.output, h.size, fun x hx => k x hx (by simp [Value.ownBlock])⟩
theorem set3 {w : World} {b : Nat} {a0 a1 a2 : Value} {T : TypeId} (hp : w.heap[b]? = some (.cells #[a0, a1, a2] T)) (x0 x1 x2 : Value) :
    (((w.setCell ⟨b, 0, none⟩ x0).setCell ⟨b, 1, none⟩ x1).setCell ⟨b, 2, none⟩ x2).cell? ⟨b, 0, none⟩ = some x0 ∧ (((w.setCell ⟨b, 0, none⟩ x0).setCell ⟨b, 1, none⟩ x1).setCell ⟨b, 2, none⟩ x2).cell? ⟨b, 1, none⟩ = some x1 ∧ (((w.setCell ⟨b, 0, none⟩ x0).setCell ⟨b, 1, none⟩ x1).setCell ⟨b, 2, none⟩ x2).cell? ⟨b, 2, none⟩ = some x2 := by
  have h3 := heap_setCell_same _ b 2 _ _ x2 (heap_setCell_same _ b 1 _ _ x1 (heap_setCell_same _ b 0 _ _ x0 hp))
  exact ⟨cell_of_row _ _ _ _ _ _ h3, cell_of_row _ _ _ _ _ _ h3, cell_of_row _ _ _ _ _ _ h3⟩
/-- An outcome as it lies in memory. -/
def ocV (k : Int) (vv fv : Value) : Value := .agg #[.int .i64 k, vv, fv]
/-- An outcome that was copied: its lists are new ones. -/
def CpR (w : World) (o : Oc) (w' : World) (vv fv : Value) : Prop := OwnG KA w' w.heap.size vv o.val ∧ OwnG KC w' w.heap.size fv o.fl ∧ Below w.heap.size w w'
set_option maxHeartbeats 8000000 in
set_option maxRecDepth 100000 in
theorem copyOf_any (w : World) (o : Oc) (vv fv : Value) (hv : AS w vv o.val) (hf : CS w fv o.fl) (l1 : o.val.length * 40 ≤ 140737488355328) (l2 : o.fl.length * 32 ≤ 140737488355328) :
    Calls Tryd.prog 25 #[.agg #[.int .i64 o.kind, vv, fv]] w fun e w' => ∃ v f, e = .returned (.agg #[.int .i64 o.kind, v, f]) ∧ CpR w o w' v f := by
  obtain ⟨kd, va, fl⟩ := o
  simp only at *
  have HV : Hid (∀ w', Below w.heap.size w w' → GS KA w' vv va) := fun w' h => hv.below h
  have HF : Hid (∀ w', Below w.heap.size w w' → GS KC w' fv fl) := fun w' h => cs_gs (hf.below h)
  have L1 : Hid ((([] : List Atm).length + va.length) * KA.B ≤ 140737488355328) := by show (([] : List Atm).length + va.length) * 40 ≤ 140737488355328; simpa using l1
  have L2 : Hid ((([] : List Cr).length + fl.length) * KC.B ≤ 140737488355328) := by show (([] : List Cr).length + fl.length) * 32 ≤ 140737488355328; simpa using l2
  have AL : Hid (∀ ob ob2, Below w.heap.size w ((w.alloc ob).alloc ob2)) := fun ob ob2 => ((Below.refl _ _).alloc (Nat.le_refl _) ob).alloc (by simp) ob2
  clear hv hf l1 l2
  go_enter Tryd.func25, Tryd.ntmps25
  go_wp2_with fail
  generalize hW : (w.alloc _).alloc _ = W
  have q0 : W.cell? ⟨w.heap.size, 0, none⟩ = some (.int .i64 kd) := by rw [← hW]; exact (Below.cell ((Below.refl _ _).alloc (Nat.le_refl _) _) (p := ⟨w.heap.size, 0, none⟩) (by simp)).trans (cell_of_row _ _ _ _ _ _ (heap_alloc_new w _))
  have q1 : W.cell? ⟨w.heap.size, 1, none⟩ = some vv := by rw [← hW]; exact (Below.cell ((Below.refl _ _).alloc (Nat.le_refl _) _) (p := ⟨w.heap.size, 1, none⟩) (by simp)).trans (cell_of_row _ _ _ _ _ _ (heap_alloc_new w _))
  have q2 : W.cell? ⟨w.heap.size, 2, none⟩ = some fv := by rw [← hW]; exact (Below.cell ((Below.refl _ _).alloc (Nat.le_refl _) _) (p := ⟨w.heap.size, 2, none⟩) (by simp)).trans (cell_of_row _ _ _ _ _ _ (heap_alloc_new w _))
  have BW : Hid (Below w.heap.size w W) := by rw [← hW]; exact AL.out _ _
  have hwz : W.heap.size = w.heap.size + 1 + 1 := by rw [← hW]; simp
  have HP : Hid (W.heap[w.heap.size + 1]? = some (.cells #[.int .i64 0, .slice none 0 0, .slice none 0 0] 36)) := by rw [← hW]; exact (heap2 w _ _)
  clear hW
  have BS : Hid (∀ w', Below W.heap.size W w' → w'.cell? ⟨w.heap.size, 0, none⟩ = some (.int .i64 kd) ∧ w'.cell? ⟨w.heap.size, 1, none⟩ = some vv ∧ w'.cell? ⟨w.heap.size, 2, none⟩ = some fv) := fun w' hb => ⟨(hb.cell (p := ⟨w.heap.size, 0, none⟩) (show w.heap.size < W.heap.size by omega)).trans q0, (hb.cell (p := ⟨w.heap.size, 1, none⟩) (show w.heap.size < W.heap.size by omega)).trans q1, (hb.cell (p := ⟨w.heap.size, 2, none⟩) (show w.heap.size < W.heap.size by omega)).trans q2⟩
  have BP : Hid (∀ w', Below W.heap.size W w' → w'.heap[w.heap.size + 1]? = some (.cells #[.int .i64 0, .slice none 0 0, .slice none 0 0] 36)) := fun w' hb => (hb.block (w.heap.size + 1) (by omega)).trans HP.out
  have FIN : Hid (∀ w7 v7 w10 v10, OwnG KA w7 W.heap.size v7 va → Below W.heap.size W w7 → OwnG KC w10 W.heap.size v10 fl → Below w7.heap.size w7 w10 → CpR w ⟨kd, va, fl⟩ (((w10.setCell ⟨w.heap.size + 1, 0, none⟩ (.int .i64 kd)).setCell ⟨w.heap.size + 1, 1, none⟩ v7).setCell ⟨w.heap.size + 1, 2, none⟩ v10) v7 v10) := fun w7 v7 w10 v10 o7 b7 o10 b10 => by
    have o7' := o7.below b10
    have st : ∀ x, x ≠ w.heap.size + 1 → (((w10.setCell ⟨w.heap.size + 1, 0, none⟩ (.int .i64 kd)).setCell ⟨w.heap.size + 1, 1, none⟩ v7).setCell ⟨w.heap.size + 1, 2, none⟩ v10).heap[x]? = w10.heap[x]? := fun x hx => (Below.heap_setCell _ _ _ _ hx).trans ((Below.heap_setCell _ _ _ _ hx).trans (Below.heap_setCell _ _ _ _ hx))
    refine ⟨(o7'.far (fun g hg => st g (by have := (o7'.lt hg).1; omega))).low (by omega), (o10.far (fun g hg => st g (by have := (o10.lt hg).1; omega))).low (by omega), ?_⟩
    have hb : Below w.heap.size w w10 := BW.out.trans ((b7.trans (b10.mono b7.size)).mono (by omega))
    refine ⟨hb.os, hb.tape, hb.output, by simpa using hb.size, fun x hx => (st x (by omega)).trans (hb.block x hx)⟩
  clear HP AL hwz
  have BR : Hid (Below W.heap.size W W) := Below.refl _ _
  have BD : Hid (Below W.heap.size W W.drew) := (Below.refl _ _).drew
  have BV : Hid (∀ w', Below W.heap.size W w' → Below w.heap.size w w') := fun w' h => BW.out.trans (h.mono BW.out.size)
  go_region_held3 (fun w' => w'.cell? ⟨w.heap.size, 0, none⟩ = some (.int .i64 kd) ∧ w'.cell? ⟨w.heap.size, 1, none⟩ = some vv ∧ w'.cell? ⟨w.heap.size, 2, none⟩ = some fv) (go_keep) (first
    | (refine step_append_any KA KA_ok (by rfl) (.const (.slice none 0 0)) (.tmp 6) 32 (by rfl) W.heap.size Tryd.underlying32 _ (.slice none 0 0) vv [] va (by rfl) (OwnG.nil KA _ _) (by rfl) (HV.out _ (BV.out _ (by first | exact BR.out | exact BD.out))) L1.out (by first | exact BR.out.size | exact BD.out.size) ?_; intro v7 w7 o7 b7 k7; rw [List.nil_append] at o7; obtain ⟨p7, c7, rfl, _⟩ := o7.form; have B7 : Hid (Below W.heap.size W w7) := (by first | exact BR.out.trans (bel_of b7 k7) | exact BD.out.trans (bel_of b7 k7)); have O7 := hid o7; obtain ⟨s0, s1, s2⟩ := BS.out _ B7.out; clear o7 b7 k7)
    | (refine step_append_any KC KC_ok (by rfl) (.const (.slice none 0 0)) (.tmp 9) 34 (by rfl) W.heap.size Tryd.underlying34 w7 (.slice none 0 0) fv [] fl (by rfl) (OwnG.nil KC _ _) (by rfl) (HF.out _ (BV.out _ B7.out)) L2.out B7.out.size ?_; intro v10 w10 o10 b10 k10; rw [List.nil_append] at o10; obtain ⟨p10, c10, rfl, _⟩ := o10.form; have B10 : Hid (Below w7.heap.size w7 w10) := bel_of b10 k10; have B10' : Hid (Below W.heap.size W w10) := B7.out.trans (B10.out.mono B7.out.size); have O10 := hid o10; obtain ⟨t0, t1, t2⟩ := BS.out _ B10'.out; have hp := BP.out _ B10'.out; have z0 : w10.cell? ⟨w.heap.size + 1, 0, none⟩ = some (.int .i64 0) := cell_of_row _ _ _ _ _ _ hp; have z1 : w10.cell? ⟨w.heap.size + 1, 1, none⟩ = some (.slice none 0 0) := cell_of_row _ _ _ _ _ _ hp; have z2 : w10.cell? ⟨w.heap.size + 1, 2, none⟩ = some (.slice none 0 0) := cell_of_row _ _ _ _ _ _ hp; have fz : ∀ o, w10.frozen? ⟨w.heap.size + 1, o, none⟩ = false := (fun o => by simp [World.frozen?, hp]); have HP9 := hid hp; clear o10 b10 k10 hp))
  all_goals
    go_wp2_with fail
    obtain ⟨y0, y1, y2⟩ := set3 HP9.out (.int .i64 kd) (.slice p7 va.length c7) (.slice p10 fl.length c10)
    exact bodyPost_ret (v := .agg #[.int .i64 kd, .slice p7 va.length c7, .slice p10 fl.length c10]) (by simp [results, Tryd.results25, go_sem, y0, y1, y2]) rfl ⟨_, _, rfl, FIN.out w7 _ w10 _ O7.out B7.out O10.out B10.out⟩
end Go.Proofs.YtbgeihgenckihaaDoor
