/- Registry: Each; its iterator's contract. -/
import Derived.Test.YtffabehipcomfaaDoorRz1
import Derived.Test.YtffabehipcomfaaDoorRd7
namespace Go.Proofs.YtffabehipcomfaaDoor
open Go.RowKit Go.Shelf
attribute [local go_sem] Oper.semAt_some

/-- These blocks stay; blocks may come. -/
def KpR (F : Nat → Prop) (a b : World) : Prop := (∀ k, F k → k < a.heap.size → b.heap[k]? = a.heap[k]?) ∧ a.heap.size ≤ b.heap.size
theorem KpR.refl (F : Nat → Prop) (a : World) : KpR F a a := ⟨fun _ _ _ => rfl, Nat.le_refl _⟩
theorem KpR.trans {F : Nat → Prop} {a b c : World} (h : KpR F a b) (k : KpR F b c) : KpR F a c := ⟨fun i hi hl => (k.1 i hi (Nat.lt_of_lt_of_le hl h.2)).trans (h.1 i hi hl), Nat.le_trans h.2 k.2⟩
theorem KpR.below {F : Nat → Prop} {a b : World} (h : Below a.heap.size a b) : KpR F a b := ⟨fun i _ hl => h.block i hl, h.size⟩
theorem each_it (w : World) {base r m : Nat} {vs : Value} {L : List Pvx} {fz : Bool} (h : GX w base r m vs L fz) : Calls Tryd.prog 8 #[.pointer (some ⟨r, 0, none⟩)] w fun e w' => e = .returned (.func (.func 24) #[] #[.pointer (some ⟨w.heap.size, 0, none⟩)]) ∧ w' = w.alloc (.cells #[vs] 24) := by
  obtain ⟨c0, _, _, _⟩ := h.cells
  obtain ⟨p, c, rfl⟩ := h.form
  have hmf : ∀ (fn : Fn) (first cap : Array Value) (w : World), (Instr.makeFunc fn first cap).run Tryd.prog w = .ok (.func fn first cap) w := fun _ _ _ _ => rfl
  clear h
  go_enter Tryd.func8, Tryd.ntmps8
  go_wp2_with fail
  go_ret
  exact ⟨rfl, rfl⟩
/-- What the iterator reads: a box with a slice, its providers, their expressions; in blocks that stay. -/
structure EI (w0 : World) (Bs : Nat) (v : Value) (L : List Pvx) (F : Nat → Prop) : Prop where
  bx : w0.heap[Bs]? = some (.cells #[v] 24)
  pr : PR w0 v L
  ln : L.length ≤ 256
  op : ∀ x ∈ L, x.p.ops.length ≤ 256
  fb : F Bs
  fv : ∀ g, v.ownBlock = some g → F g
  fe : ∀ x ∈ L, ∀ g, x.v.ownBlock = some g → F g
  lt : ∀ g, F g → g < w0.heap.size
theorem EI.at {w0 W : World} {Bs : Nat} {v : Value} {L : List Pvx} {F : Nat → Prop} (h : EI w0 Bs v L F) (k : KpR F w0 W) : W.heap[Bs]? = some (.cells #[v] 24) ∧ PR W v L :=
  ⟨(k.1 Bs h.fb (h.lt _ h.fb)).trans h.bx, ⟨h.pr.gs.blk k.2 (fun x hx hl => k.1 x (h.fv x hx) hl), fun x hx => ⟨(h.pr.ps x hx).os.blk k.2 (fun g hg hl => k.1 g (h.fe x hx g hg) hl), (h.pr.ps x hx).tx, (h.pr.ps x hx).nm, (h.pr.ps x hx).ln⟩⟩⟩
/-- What is handed over: the number, and the provider with an expression that was laid in that round. -/
def RE (w0 : World) (L : List Pvx) (k : Nat) (x : Array Value) (W : World) : Prop := ∃ (hk : k < L.length) (q : Option Addr) (c : Nat) (b : Nat), x = #[.int .i64 (k : Nat), prvV L[k].p (.slice q L[k].p.ops.length c)] ∧ OwnG KO W b (.slice q L[k].p.ops.length c) L[k].p.ops ∧ w0.heap.size ≤ b
set_option maxRecDepth 100000 in
set_option maxHeartbeats 4000000 in
theorem each_rel (n : Nat) (hn : 1 ≤ n) {w0 : World} {Bs : Nat} {v : Value} {L : List Pvx} {F : Nat → Prop} (h : EI w0 Bs v L F) : SeqRel Fence.wide n Tryd.prog 24 #[.pointer (some ⟨Bs, 0, none⟩)] L.length (RE w0 L) (KpR F) w0 := by
  intro l J Jx W hW hJ hY h0
  obtain ⟨p, cap, rfl⟩ := h.pr.gs.form
  have AT := hidr (fun W2 (hk : KpR F w0 W2) => h.at hk)
  obtain ⟨len, hlen⟩ : ∃ len, len = L.length := ⟨_, rfl⟩
  have ML := hidr hlen
  rw [← hlen] at AT hY ⊢
  have b0 : W.cell? ⟨Bs, 0, none⟩ = some (.slice p len cap) := cell_of_row _ _ _ _ _ _ (AT.out W hW).1
  have J0 := hidr h0
  have W0 := hidr hW
  have LT := hidr h.lt
  have OP := hidr h.op
  have L256 : len ≤ 256 := by rw [hlen]; exact h.ln
  have JB := hidr hJ
  have YY := hidr hY
  clear h hY hJ h0 hW hlen
  refine callsIn_of_wp Tryd.func24 rfl trivial ?_ rfl
  simp only [Tryd.ntmps24, List.size_toArray, List.length_cons, List.length_nil, Nat.reduceAdd, Nat.reduceSub, Array.replicate_succ, Array.replicate_zero, List.push_toArray, List.append_toArray, List.nil_append, List.cons_append]
  gi_wp2
  clear b0
  gi_loopw [7] (fun i wr => ∃ (k : Nat) (wk : World), k ≤ len ∧ i = .int .i64 (k : Nat) ∧ wk = wr ∧ Hid (J k wk) ∧ Hid (KpR F w0 wk)) (fun i _ => (len - (intOf i).toNat))
  case atStart => exact ⟨0, _, Nat.zero_le _, rfl, rfl, J0, W0⟩
  case round =>
    obtain ⟨k, wr, hk, rfl, rfl, HJ, HK⟩ := hrel
    clear J0 W0
    by_cases hlt : k < len
    · have hkl : k < L.length := by have := ML.out; omega
      have hk1 : (k : Int) < (len : Int) := by omega
      obtain ⟨b0, PR0⟩ := AT.out wr HK.out
      have c0 : wr.cell? ⟨Bs, 0, none⟩ = some (.slice p len cap) := cell_of_row _ _ _ _ _ _ b0
      rw [ML.out] at PR0
      obtain ⟨X, o, e1, x0, x1, x2, x3, x4, x5, x6, x7, x8⟩ := PR0.gs.atP hkl
      obtain rfl : p = some ⟨X, o, none⟩ := e1
      have PSx := hidr (PR0.ps _ (List.getElem_mem hkl))
      have CP1 := hidr (fun ob => copied_any L[k].p L[k].v (wr.alloc ob) (PSx.out.below (balr wr ob)) (by have := OP.out _ (List.getElem_mem hkl); omega))
      have YK := hidr (fun W q c (b : Below wr.heap.size wr W) (oo : OwnG KO W (wr.heap.size + 1) (.slice q L[k].p.ops.length c) L[k].p.ops) => YY.out k #[.int .i64 (k : Nat), prvV L[k].p (.slice q L[k].p.ops.length c)] W (JB.out _ _ _ HJ.out b) hlt ⟨hkl, q, c, _, rfl, oo, by have := HK.out.2; omega⟩)
      have KN := hidr (fun W W2 (b : Below wr.heap.size wr W) (k2 : KpR F W W2) => HK.out.trans ((KpR.below b).trans k2))
      have PX : Hid (PBx (wr.alloc (.cells (prvC L[k].p L[k].v) 37)) wr.heap.size L[k].p L[k].v) := heap_alloc_new _ _
      generalize L[k] = y at *
      obtain ⟨⟨nm, ops, ag, ⟨pt, pb, pf, pc⟩, ck, ct⟩, q, cq⟩ := y
      simp only [prvV, prvC, Pvx.v] at *
      obtain ⟨y0, y1, y2, y3, y4, y5, y6, y7, y8⟩ := PBx.cells PX.out
      clear PR0 b0 PSx YY JB
      gi_wp2_with fail
      clear x0 x1 x2 x3 x4 x5 x6 x7 x8 y0 y1 y2 y3 y4 y5 y6 y7 y8 c0
      refine ⟨trivial, (callsIn_wide.2 (CP1.out _)).mono ?_⟩
      rintro e w2 ⟨q2, cq2, rfl, o2, b2⟩
      have B2 : Hid (Below wr.heap.size wr w2) := blr (balr wr _) b2
      obtain ⟨fn, tmps, assign, body, hy, hR⟩ := YK.out w2 q2 cq2 B2.out (o2.low (by simp))
      have KN2 := hidr (fun W2 k2 => KN.out w2 W2 B2.out k2)
      clear o2 b2 YK CP1 PX KN
      gi_wp2_with fail
      refine hR.mono ?_
      rintro e W3 (⟨rfl, hJ3, hk3⟩ | ⟨rfl, hJx3⟩)
      · have K3 := hidr (KN2.out W3 hk3)
        have J3 := hidr hJ3
        clear hJ3 hk3 KN2
        gi_wp2_with fail
        go_roundw
        case rel => exact ⟨k + 1, _, by omega, by go_num, rfl, J3, K3⟩
        case measure => simp [intOf]; omega
      · gi_wp2_with fail
        refine bodyPost_ret (results_none rfl _ _ _) rfl ?_
        exact ⟨⟨_, rfl⟩, .inr ⟨k + 1, hlt, hJx3⟩⟩
    · obtain rfl : k = len := by omega
      have hk1 : ¬ (k : Int) < (k : Int) := by omega
      gi_wp2_with fail
      go_end0
      exact ⟨⟨_, rfl⟩, .inl HJ.out⟩
end Go.Proofs.YtffabehipcomfaaDoor
