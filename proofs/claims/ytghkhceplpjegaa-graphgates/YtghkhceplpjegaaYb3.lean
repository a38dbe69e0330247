/- Graph: lanesOf. -/
import Derived.Test.YtghkhceplpjegaaYc1
namespace Go.Proofs.Ytghkhceplpjegaa
open Go.RowKit

theorem LZ.imp {w : World} {base b N : Nat} {vs : List Sl} {R Q : Nat → List Int} (h : LZ w base b N vs R) (k : ∀ i, i < N → R i = Q i) : LZ w base b N vs Q := ⟨h.len, h.out, fun i hi => by rw [← k i hi]; exact h.row i hi, h.ap⟩
theorem LZ.fresh {w : World} {base b N : Nat} (h : OwnG KS w base (.slice (some ⟨b, 0, none⟩) N N) (List.replicate N sl0)) : LZ w base b N (List.replicate N sl0) (fun _ => []) := by
  have e : ∀ i, (List.replicate N sl0).getD i sl0 = sl0 := fun i => by
    simp only [List.getD]
    by_cases h : i < N
    · simp [h]
    · simp [h]
  refine ⟨by simp, h, fun i _ => by rw [e]; exact OwnG.nil KI w base, fun i j g _ _ _ hg => ?_⟩
  rw [e] at hg
  cases hg
/-- A row written in its place. -/
theorem LZ.turn {w w2 : World} {base b N : Nat} {vs : List Sl} {R : Nat → List Int} (h : LZ w base b N vs R) {i : Nat} (hi : i < N) {r : List Int} (ho : OwnG KI w2 base (slV (vs.getD i sl0)) r) (hb : But (fun x => (slV (vs.getD i sl0)).ownBlock = some x) w w2) : LZ w2 base b N vs (fun j => if j = i then r else R j) := by
  have bne : ∀ j, j < N → (slV (vs.getD j sl0)).ownBlock ≠ some b := fun j hj => (h.row j hj).apart h.out (by decide) rfl
  refine ⟨h.len, h.out.far fun g hg => ?_, fun j hj => ?_, h.ap⟩
  · have hl := h.out.lt hg
    injection hg with hg
    have hg : b = g := hg
    subst hg
    exact hb.block b hl.2 (bne i hi)
  · by_cases e : j = i
    · rw [if_pos e, e]; exact ho
    · rw [if_neg e]
      refine (h.row j hj).far fun g hg => hb.block g ((h.row j hj).lt hg).2 ?_
      exact h.ap j i g hj hi e hg
/-- The rows of a list of which the first k are in order. -/
def rwK (N : Nat) (E : List (Nat × Nat)) (k i : Nat) : List Int := if i < k then nI (nx N E i) else nI (tg E i)
theorem LZ.sorted {w w2 : World} {base b N : Nat} {vs : List Sl} {E : List (Nat × Nat)} {k : Nat} (h : LZ w base b N vs (rwK N E k)) (hk : k < N) {p : Option Addr} {c : Nat} (hs : slV (vs.getD k sl0) = .slice p (nI (tg E k)).length c) (ho : OwnG KI w2 base (.slice p (nI (tg E k)).length c) ((nI (tg E k)).mergeSort fun x y => decide (x ≤ y))) (hb : But (fun x => (Value.slice p (nI (tg E k)).length c).ownBlock = some x) w w2) : LZ w2 base b N vs (fun i => if i = k then (nI (tg E k)).mergeSort (fun x y => decide (x ≤ y)) else rwK N E k i) := by
  rw [← hs] at ho hb
  exact h.turn hk ho hb
theorem LZ.compacted {w w3 : World} {base b N : Nat} {vs : List Sl} {E : List (Nat × Nat)} {k : Nat} (h : LZ w base b N vs (fun i => if i = k then (nI (tg E k)).mergeSort (fun x y => decide (x ≤ y)) else rwK N E k i)) (hk : k < N) {p p3 : Option Addr} {c c3 : Nat} (hs : slV (vs.getD k sl0) = .slice p (nI (tg E k)).length c) (ho : OwnG KI w3 base (.slice p3 (nI (nx N E k)).length c3) (nI (nx N E k))) (he : (Value.slice p3 (nI (nx N E k)).length c3).ownBlock = (Value.slice p (nI (tg E k)).length c).ownBlock) (hb : But (fun x => (Value.slice p (nI (tg E k)).length c).ownBlock = some x) w w3) : LZ (w3.setCell ⟨b, k, none⟩ (.slice p3 (nI (nx N E k)).length c3)) base b N (vs.set k (p3, (nI (nx N E k)).length, c3)) (rwK N E (k + 1)) ∧ w3.frozen? ⟨b, k, none⟩ = false ∧ (∃ u, w3.cell? ⟨b, k, none⟩ = some u) ∧ Below base w (w3.setCell ⟨b, k, none⟩ (.slice p3 (nI (nx N E k)).length c3)) := by
  have hbb := h.bb
  have hrow := h.row k hk
  have := h.put (w8 := w3) hk (p3, (nI (nx N E k)).length, c3) _ ho (fun x hx hn => hb.block x hx (by rw [← hs]; exact hn)) (fun g hg1 => Or.inl (by rw [hs, ← he]; exact hg1))
  refine ⟨this.1.imp fun i _ => ?_, this.2.1, this.2.2.1, ?_⟩
  · unfold rwK
    by_cases e : i = k
    · rw [if_pos e, if_pos (by omega), e]
    · rw [if_neg e]
      show (if i = k then _ else if i < k then _ else _) = _
      rw [if_neg e]
      by_cases e2 : i < k
      · rw [if_pos e2, if_pos (by omega)]
      · rw [if_neg e2, if_neg (by omega)]
  · refine Below.setCell (p := ⟨b, k, none⟩) (hb.below (Nat.le_of_lt (Nat.lt_of_le_of_lt hbb.1 hbb.2)) fun x hx => ?_) hbb.1 _
    exact (hrow.lt (by rw [hs]; exact hx)).1
theorem tg_take {E : List (Nat × Nat)} {j : Nat} (hj : j < E.length) (i : Nat) : nI (tg (E.take (j + 1)) i) = if i = E[j].1 then nI (tg (E.take j) i) ++ [(E[j].2 : Int)] else nI (tg (E.take j) i) := by
  rw [List.take_succ_eq_append_getElem hj, tg_snoc]
  split
  · rw [nI_app]; rfl
  · rfl
theorem GS.atN {w : World} {p : Option Addr} {n cap k : Nat} {E : List (Nat × Nat)} (h : GS KE w (.slice p n cap) (eI E)) (hk : k < E.length) : ∃ X o, p = some ⟨X, o, none⟩ ∧ w.cell? ⟨X, o + k * 2, none⟩ = some (.int .i64 (E[k].1 : Nat)) ∧ w.cell? ⟨X, o + k * 2 + 1, none⟩ = some (.int .i64 (E[k].2 : Nat)) := by
  obtain ⟨X, o, e, _, h1, h2⟩ := GS.atE h (k := k) (by rw [eI_len]; exact hk)
  rw [eI_at hk] at h1 h2
  exact ⟨X, o, e, h1, h2⟩
/-- What the region of a round leaves. -/
theorem lanes_put {W V w1 w8 : World} {B b N : Nat} {vs : List Sl} {E : List (Nat × Nat)} {j : Nat} (hj : j < E.length) (h : LZ V B b N vs (fun i => nI (tg (E.take j) i))) (hW : Below B W V) (hf : E[j].1 < N) {p : Option Addr} {c g8 c8 : Nat} (hs : slV (vs.getD E[j].1 sl0) = .slice p (nI (tg (E.take j) E[j].1)).length c) (h1 : Below V.heap.size V w1) (hB : B ≤ V.heap.size) (ho : OwnG KI w8 B (.slice (some ⟨g8, 0, none⟩) ((nI (tg (E.take j) E[j].1)).length + 1) c8) (nI (tg (E.take j) E[j].1) ++ [(E[j].2 : Int)])) (h8 : Below B w1 w8) (hk : ∀ k, k < w1.heap.size → some k ≠ (Value.slice p (nI (tg (E.take j) E[j].1)).length c).ownBlock → w8.heap[k]? = w1.heap[k]?) (hg : (Value.slice p (nI (tg (E.take j) E[j].1)).length c).ownBlock = some g8 ∨ w1.heap.size ≤ g8) :
    LZ (w8.setCell ⟨b, E[j].1, none⟩ (.slice (some ⟨g8, 0, none⟩) ((nI (tg (E.take j) E[j].1)).length + 1) c8)) B b N (vs.set E[j].1 (some ⟨g8, 0, none⟩, (nI (tg (E.take j) E[j].1)).length + 1, c8)) (fun i => nI (tg (E.take (j + 1)) i)) ∧ Below B W (w8.setCell ⟨b, E[j].1, none⟩ (.slice (some ⟨g8, 0, none⟩) ((nI (tg (E.take j) E[j].1)).length + 1) c8)) ∧ w8.frozen? ⟨b, E[j].1, none⟩ = false ∧ ∃ u, w8.cell? ⟨b, E[j].1, none⟩ = some u := by
  have hL1 := h.below h1
  have hbb := h.bb
  have := hL1.put (w8 := w8) hf (some ⟨g8, 0, none⟩, (nI (tg (E.take j) E[j].1)).length + 1, c8) _ ho (fun k hk1 hk2 => hk k hk1 (by rw [← hs]; exact fun e => hk2 e.symm)) (fun g hg1 => by
    injection hg1 with hg1
    have hg1 : g8 = g := hg1
    subst hg1
    rw [hs]; exact hg)
  refine ⟨this.1.imp fun i _ => ?_, ?_, this.2.1, this.2.2.1⟩
  · rw [tg_take hj]
    by_cases e : i = E[j].1
    · rw [if_pos e, if_pos e, e]
    · rw [if_neg e, if_neg e]
  · exact ((hW.trans (h1.mono hB)).trans h8).setCell (p := ⟨b, E[j].1, none⟩) hbb.1 _
set_option maxRecDepth 100000 in
set_option maxHeartbeats 16000000 in
theorem lanesOf_any (w : World) (N : Nat) (v : Value) (E : List (Nat × Nat)) (hg : GOK N E) (hv : GS KE w v (eI E)) : Calls Try.prog 34 #[.agg #[.int .i64 N, v]] w fun e w' => ∃ b vs, e = .returned (.slice (some ⟨b, 0, none⟩) N N) ∧ LZ w' w.heap.size b N vs (fun i => nI (nx N E i)) ∧ Below w.heap.size w w' := by
  obtain ⟨p, c, rfl⟩ := hv.form
  have A1 := hid (fun w' (hb : Below w.heap.size w w') j (hj : j < E.length) => GS.atN (hv.below hb) hj)
  have HG := hid hg
  rw [eI_len]
  obtain ⟨m, hm⟩ : ∃ m, m = E.length := ⟨_, rfl⟩
  rw [← hm]
  have M1 : Hid (E.length = m) := hm.symm
  have a4 : m ≤ 16384 := by have := hg.e; omega
  have a5 : N ≤ 4096 := hg.n
  clear hm hv hg
  go_enter Try.func34, Try.ntmps34
  go_upto_region 1 with fail
  generalize hW : w.alloc (.cells #[.int .i64 N, .slice p m c] 24) = W
  have BW : Hid (Below w.heap.size w W) := by rw [← hW]; exact bal _ _
  have SW : Hid (W.heap.size = w.heap.size + 1) := by show _ = _; rw [← hW, asz]
  have C0 : Hid (∀ W', Below W.heap.size W W' → W'.cell? ⟨w.heap.size, 0, none⟩ = some (.int .i64 N) ∧ W'.cell? ⟨w.heap.size, 1, none⟩ = some (.slice p m c)) := fun W' hb => by
    have e : W'.heap[w.heap.size]? = some (.cells #[.int .i64 N, .slice p m c] 24) := (hb.block _ (by rw [← hW, asz]; omega)).trans (by rw [← hW]; exact heap_alloc_new _ _)
    exact ⟨cell_of_row _ _ _ _ _ _ e, cell_of_row _ _ _ _ _ _ e⟩
  obtain ⟨sz, hsz⟩ : ∃ sz, sz = w.heap.size := ⟨_, rfl⟩
  rw [← hsz] at C0 SW ⊢
  have HZ := hid hsz
  clear hW hsz
  obtain ⟨d0, d1⟩ := C0.out W (Below.refl _ _)
  go_upto_region 2 with (refine make_g KS KS_ok sl0 rfl rfl W rfl (.tmp 8) (.tmp 8) 57 rfl Try.underlying57 N rfl rfl (by omega) (by decide) ?_; intro w1 ho1 hb1; have L1 := hid (LZ.fresh ho1); have B1 := hid hb1; clear ho1 hb1)
  obtain ⟨e0, e1⟩ := C0.out w1 B1.out
  have L2 : Hid (LZ w1 W.heap.size W.heap.size N (List.replicate N sl0) (fun i => nI (tg (E.take 0) i))) := L1.out.imp fun i _ => rfl
  obtain ⟨B, hB⟩ : ∃ B, B = W.heap.size := ⟨_, rfl⟩
  rw [← hB] at L2 B1 C0 SW ⊢
  have HB := hid hB
  clear hB L1
  go_wp2_with fail
  go_loopw [13] (fun v13 wr => ∃ (j : Nat) (wk : World) (vs : List Sl), v13 = .int .i64 j ∧ wk = wr ∧ j ≤ m ∧ Hid (LZ wk B B N vs (fun i => nI (tg (E.take j) i))) ∧ Hid (Below B W wk)) (fun v13 _ => m - (intOf v13).toNat)
  case atStart => exact ⟨0, _, _, rfl, rfl, Nat.zero_le _, L2, B1⟩
  case round =>
    obtain ⟨j, wr, vs, rfl, rfl, hj, HL, HW⟩ := hrel
    have WB : Hid (Below w.heap.size w wr) := BW.out.trans (HW.out.mono (by have := SW.out; have := HZ.out; omega))
    by_cases hlt : j < m
    · have j1 : j < E.length := by have := M1.out; omega
      obtain ⟨X, o, e2, c1, c2⟩ := A1.out wr WB.out j j1
      subst e2
      have hf : E[j].1 < N := (HG.out.lt _ (List.getElem_mem j1)).1
      have hji : (j : Int) < (m : Nat) := by omega
      have hBr : B < wr.heap.size := HL.out.bb.2
      obtain ⟨pp, cc, q1, q2, q3⟩ := HL.out.at hf
      have hrl : (nI (tg (E.take j) E[j].1)).length ≤ 16384 := by rw [nI_len]; have := tg_len (E.take j) E[j].1; rw [List.length_take] at this; omega
      have LP := hid (fun w1 w8 g8 c8 (V : World) (hV : Below wr.heap.size wr V) (h1 : Below V.heap.size V w1) => lanes_put (w1 := w1) (w8 := w8) (g8 := g8) (c8 := c8) j1 (HL.out.below hV) (HW.out.trans (hV.mono (Nat.le_of_lt hBr))) hf q2 h1 (Nat.le_trans (Nat.le_of_lt hBr) hV.size))
      have OW := hid q3
      generalize nI (tg (E.take j) E[j].1) = row at *
      generalize E[j].1 = f at *
      generalize E[j].2 = t at *
      have hfi : (f : Int) < (N : Nat) := by omega
      have hf0 : (0 : Int) ≤ (f : Nat) := by omega
      have LS : Hid ((row.length + 1) * KI.B ≤ 140737488355328) := by show (_ + 1) * 8 ≤ _; omega
      clear q2 q3 L2 d0 d1
      go_upto_region 5 with fail
      generalize hV : wr.alloc (.cells #[.int .i64 f, .int .i64 t] 47) = V
      have BV : Hid (Below wr.heap.size wr V) := by rw [← hV]; exact bal _ _
      have VE : V.cell? ⟨wr.heap.size, 0, none⟩ = some (.int .i64 f) ∧ V.cell? ⟨wr.heap.size, 1, none⟩ = some (.int .i64 t) := by
        have e : V.heap[wr.heap.size]? = some (.cells #[.int .i64 f, .int .i64 t] 47) := by rw [← hV]; exact heap_alloc_new _ _
        exact ⟨cell_of_row _ _ _ _ _ _ e, cell_of_row _ _ _ _ _ _ e⟩
      obtain ⟨x0, x1⟩ := VE
      have x2 : V.cell? ⟨B, f, none⟩ = some (.slice pp row.length cc) := (BV.out.cell (p := ⟨B, f, none⟩) hBr).trans q1
      have OV : Hid (OwnG KI V B (.slice pp row.length cc) row) := OW.out.below BV.out
      have BZ : Hid (B ≤ V.heap.size) := Nat.le_trans (Nat.le_of_lt hBr) BV.out.size
      have hBV : B < V.heap.size := Nat.lt_of_lt_of_le hBr BV.out.size
      have n0 := World.new_ne V ⟨B, f, none⟩ x2
      have n1 := World.new_ne V ⟨wr.heap.size, 0, none⟩ x0
      have nl : wr.heap.size < V.heap.size := by rw [← hV, asz]; omega
      have z0 : ∀ ob, (V.alloc ob).cell? ⟨wr.heap.size, 0, none⟩ = some (.int .i64 f) := fun ob => ((bal V ob).cell (p := ⟨wr.heap.size, 0, none⟩) nl).trans x0
      have z1 : ∀ ob, (V.alloc ob).cell? ⟨wr.heap.size, 1, none⟩ = some (.int .i64 t) := fun ob => ((bal V ob).cell (p := ⟨wr.heap.size, 1, none⟩) nl).trans x1
      have z2 : ∀ ob, (V.alloc ob).cell? ⟨B, f, none⟩ = some (.slice pp row.length cc) := fun ob => ((bal V ob).cell (p := ⟨B, f, none⟩) hBV).trans x2
      have XP : Hid (∀ w1 w8 : World, Below V.heap.size V w1 → (∀ k, k < w1.heap.size → some k ≠ (Value.slice pp row.length cc).ownBlock → w8.heap[k]? = w1.heap[k]?) → w8.cell? ⟨wr.heap.size, 0, none⟩ = some (.int .i64 f) ∧ w8.cell? ⟨wr.heap.size, 1, none⟩ = some (.int .i64 t)) := fun w1 w8 b1 k8 => by
        have hne : (Value.slice pp row.length cc).ownBlock ≠ some wr.heap.size := OV.out.notat (arr := #[.int .i64 f, .int .i64 t]) (t := 47) (by rw [← hV]; exact heap_alloc_new _ _) (by decide)
        have e := (k8 wr.heap.size (Nat.lt_of_lt_of_le nl b1.size) (fun e => hne e.symm)).trans (b1.block _ nl)
        exact ⟨(World.cell?_of_block (w := V) (a := ⟨wr.heap.size, 0, none⟩) e).trans x0, (World.cell?_of_block (w := V) (a := ⟨wr.heap.size, 1, none⟩) e).trans x1⟩
      clear hV q1 c1 c2
      generalize wr.heap.size = ne at *
      go_region_law ((refine step_append_g KI KI_ok (by rfl) (.tmp 24) (.tmp 27) 25 (by rfl) B Try.underlying25 _ _ _ _ (by first | exact heap_alloc_new _ _) (.slice pp row.length cc) row (t : Int) _ (by rfl) (OwnG.below OV.out (by first | exact (Below.refl _ _).alloc (Nat.le_refl _) _ | exact ((Below.refl _ _).drew).alloc (Nat.le_refl _) _)) (by rfl) (by rfl) LS.out (by first | (simp; exact BZ.out) | (have := BZ.out; simp; omega)) ?_; intro g8 c8 w8 o8 b8 k8 q8; obtain ⟨m1, m2, m3, u8, m4⟩ := LP.out _ w8 g8 c8 V BV.out (by first | exact (Below.refl _ _).alloc (Nat.le_refl _) _ | exact ((Below.refl _ _).drew).alloc (Nat.le_refl _) _) o8 b8 k8 q8; obtain ⟨y0, y1⟩ := XP.out _ w8 (by first | exact (Below.refl _ _).alloc (Nat.le_refl _) _ | exact ((Below.refl _ _).drew).alloc (Nat.le_refl _) _) k8; have N1 := hid m1; have N2 := hid m2; clear m1 m2 o8 b8 q8 k8))
      all_goals
        go_wp2
        go_roundw
        case rel => exact ⟨j + 1, _, _, by go_num, rfl, by omega, N1, N2⟩
        case measure => simp [intOf]; omega
    · obtain rfl : j = m := by omega
      have L3 : Hid (LZ wr B B N vs (rwK N E 0)) := HL.out.imp fun i _ => by
        unfold rwK
        rw [if_neg (by omega), List.take_of_length_le (by rw [M1.out]; exact Nat.le_refl _)]
      obtain ⟨k0, k1⟩ := C0.out wr HW.out
      clear L2 HL
      go_wp2
      go_loopw [33] (fun v33 wq => ∃ (k : Nat) (wk : World) (vs : List Sl), v33 = .int .i64 k ∧ wk = wq ∧ k ≤ N ∧ Hid (LZ wk B B N vs (rwK N E k)) ∧ Hid (Below B W wk)) (fun v33 _ => N - (intOf v33).toNat)
      case atStart => exact ⟨0, _, _, rfl, rfl, Nat.zero_le _, L3, HW⟩
      case round =>
        obtain ⟨k, wq, us, rfl, rfl, hk, HL, HQ⟩ := hrel
        clear L3 HW k0 k1 WB e0 e1 d0 d1
        by_cases hkN : k < N
        · obtain ⟨pp, cc, q1, q2, q3⟩ := HL.out.at hkN
          have er : rwK N E k k = nI (tg E k) := by unfold rwK; rw [if_neg (by omega)]
          rw [er] at q1 q2 q3
          have hrl : (nI (tg E k)).length ≤ 16384 := by rw [nI_len]; have := tg_len E k; have := M1.out; omega
          have SC := hid ((sortI_any q3 (by omega)).mono (fun e w2 (h2 : _ ∧ _ ∧ _) => (⟨h2.1, h2.2.1, h2.2.2, (HL.out.sorted hkN q2 h2.2.1 h2.2.2)⟩ : _ ∧ _ ∧ _ ∧ _)))
          have CP := hid (fun (w2 : World) (h2 : LZ w2 B B N us (fun i => if i = k then (nI (tg E k)).mergeSort (fun x y => decide (x ≤ y)) else rwK N E k i)) (o2 : OwnG KI w2 B (.slice pp (nI (tg E k)).length cc) ((nI (tg E k)).mergeSort fun x y => decide (x ≤ y))) => (compI_any o2 (by rw [List.length_mergeSort]; omega)).mono (fun e w3 (h3 : ∃ p c, _) => (by
            obtain ⟨p3, c3, e3, o3, e4, b3⟩ := h3
            rw [nx_sorted HG.out k] at e3 o3 e4
            have hh := h2.compacted hkN q2 o3 e4 b3
            exact ⟨p3, c3, e3, hh⟩ : ∃ p3 c3, e = .returned (.slice p3 (nI (nx N E k)).length c3) ∧ LZ (w3.setCell ⟨B, k, none⟩ (.slice p3 (nI (nx N E k)).length c3)) B B N (us.set k (p3, (nI (nx N E k)).length, c3)) (rwK N E (k + 1)) ∧ w3.frozen? ⟨B, k, none⟩ = false ∧ (∃ u, w3.cell? ⟨B, k, none⟩ = some u) ∧ Below B w2 (w3.setCell ⟨B, k, none⟩ (.slice p3 (nI (nx N E k)).length c3)))))
          have AT := hid (fun (w2 : World) (h2 : LZ w2 B B N us (fun i => if i = k then (nI (tg E k)).mergeSort (fun x y => decide (x ≤ y)) else rwK N E k i)) => (by
            obtain ⟨p4, c4, a1, a2, _⟩ := h2.at hkN
            rw [q2] at a2
            rw [← a2] at a1
            exact a1 : w2.cell? ⟨B, k, none⟩ = some (.slice pp (nI (tg E k)).length cc)))
          have hki : (k : Int) < (N : Nat) := by omega
          have BB : Hid (∀ w2, But (fun x => (Value.slice pp (nI (tg E k)).length cc).ownBlock = some x) wq w2 → Below B wq w2) := fun w2 hb => hb.below (Nat.le_of_lt (Nat.lt_of_le_of_lt HL.out.bb.1 HL.out.bb.2)) fun x hx => (q3.lt hx).1
          clear q2 q3 er
          generalize (nI (nx N E k)).length = ln at *
          obtain ⟨SR, hSR⟩ : ∃ SR, SR = (nI (tg E k)).mergeSort (fun x y => decide (x ≤ y)) := ⟨_, rfl⟩
          rw [← hSR] at SC CP AT
          generalize (nI (tg E k)).length = lr at *
          clear hSR
          go_wp2_with (first | (go_at_call 53; refine SC.out.mono ?_; rintro e w2 ⟨rfl, o2, b2, l2⟩; have O2 := hid o2; have B2 := hid (BB.out _ b2); have L2 := hid l2; have a2 := AT.out _ l2; clear o2 b2 l2) | (go_at_call 58; refine (CP.out _ L2.out O2.out).mono ?_; rintro e w3 ⟨p3, c3, rfl, l3, f3, ⟨u3, a3⟩, b3⟩; have L3 := hid l3; have B3 := hid b3; clear l3 b3))
          go_roundw
          case rel => exact ⟨k + 1, _, _, by go_num, rfl, by omega, L3, HQ.out.trans (B2.out.trans B3.out)⟩
          case measure => simp [intOf]; omega
        · obtain rfl : k = N := by omega
          have LF : Hid (LZ wq B B k us (fun i => nI (nx k E i))) := HL.out.imp fun i hi => by unfold rwK; rw [if_pos hi]
          go_wp2
          go_ret
          refine ⟨B, us, rfl, ?_, BW.out.trans (HQ.out.mono (by have := SW.out; have := HZ.out; omega))⟩
          have hle : w.heap.size ≤ B := by have := SW.out; have := HZ.out; omega
          exact ⟨LF.out.len, LF.out.out.low hle, fun i hi => (LF.out.row i hi).low hle, LF.out.ap⟩
end Go.Proofs.Ytghkhceplpjegaa
