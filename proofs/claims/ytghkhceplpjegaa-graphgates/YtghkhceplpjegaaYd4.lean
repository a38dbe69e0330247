/- Graph: Turn on both sides. -/
import Derived.Test.YtghkhceplpjegaaYd3
namespace Go.Proofs.Ytghkhceplpjegaa
open Go.RowKit

def tuN (n : Int) (e : List (Int × Int)) : Int := if chkG n e = 0 then n else 0
def tuL (n : Int) (e : List (Int × Int)) : List (Int × Int) := if chkG n e = 0 then e.map swE else []
/-- A graph and an error. -/
def AnsG (w : World) (n : Int) (L : List (Int × Int)) (r : Int) (e : Ending) (w' : World) : Prop := ∃ p c, e = .returned (.tuple #[.agg #[.int .i64 n, .slice p L.length c], .int .i64 r]) ∧ OwnG KE w' w.heap.size (.slice p L.length c) L ∧ Below w.heap.size w w'
theorem chk_len {n : Int} {e : List (Int × Int)} (h : chkG n e = 0) : e.length ≤ 16384 := by
  obtain ⟨N, E, _, rfl, hg⟩ := chkG_ok h
  rw [eI_len]; exact hg.e
/-- The box of the argument and that of the answer. -/
structure TB2 (w W : World) (n : Int) (v : Value) : Prop where
  bl : Below w.heap.size w W
  sz : W.heap.size = w.heap.size + 2
  b0 : W.heap[w.heap.size]? = some (.cells #[.int .i64 n, v] 24)
  b1 : W.heap[w.heap.size + 1]? = some (.cells #[.int .i64 0, .slice none 0 0] 24)
theorem TB2.mk_ (w : World) (n : Int) (v : Value) : TB2 w ((w.alloc (.cells #[.int .i64 n, v] 24)).alloc (.cells #[.int .i64 0, .slice none 0 0] 24)) n v := by
  refine ⟨bl3 (bal _ _) (bal _ _), by rw [asz, asz], by rw [Below.heap_alloc _ _ _ (by rw [asz]; omega)]; exact heap_alloc_new _ _, ?_⟩
  have := heap_alloc_new (w.alloc (.cells #[.int .i64 n, v] 24)) (.cells #[.int .i64 0, .slice none 0 0] 24)
  rw [asz] at this
  exact this
theorem TB2.at {w W : World} {n : Int} {v : Value} (h : TB2 w W n v) {W' : World} (hb : Below W.heap.size W W') : (W'.cell? ⟨w.heap.size, 0, none⟩ = some (.int .i64 n) ∧ W'.cell? ⟨w.heap.size, 1, none⟩ = some v) ∧ W'.heap[w.heap.size + 1]? = some (.cells #[.int .i64 0, .slice none 0 0] 24) ∧ W'.cell? ⟨w.heap.size + 1, 0, none⟩ = some (.int .i64 0) ∧ W'.cell? ⟨w.heap.size + 1, 1, none⟩ = some (.slice none 0 0) ∧ ∀ o, W'.frozen? ⟨w.heap.size + 1, o, none⟩ = false := by
  have hs := h.sz
  have e0 := (hb.block _ (by omega)).trans h.b0
  have e1 := (hb.block _ (by omega)).trans h.b1
  exact ⟨⟨cell_of_row _ _ _ _ _ _ e0, cell_of_row _ _ _ _ _ _ e0⟩, e1, cell_of_row _ _ _ _ _ _ e1, cell_of_row _ _ _ _ _ _ e1, fun o => by simp [World.frozen?, e1]⟩
/-- The answer written. -/
theorem TB2.put {w W : World} {n : Int} {v : Value} (h : TB2 w W n v) {W' : World} (hb : Below W.heap.size W W') (a b : Value) : (((W'.setCell ⟨w.heap.size + 1, 0, none⟩ a).setCell ⟨w.heap.size + 1, 1, none⟩ b).cell? ⟨w.heap.size + 1, 0, none⟩ = some a ∧ ((W'.setCell ⟨w.heap.size + 1, 0, none⟩ a).setCell ⟨w.heap.size + 1, 1, none⟩ b).cell? ⟨w.heap.size + 1, 1, none⟩ = some b) ∧ Below w.heap.size w ((W'.setCell ⟨w.heap.size + 1, 0, none⟩ a).setCell ⟨w.heap.size + 1, 1, none⟩ b) ∧ ∀ (u : Value) (L : List (Int × Int)), OwnG KE W' W.heap.size u L → OwnG KE ((W'.setCell ⟨w.heap.size + 1, 0, none⟩ a).setCell ⟨w.heap.size + 1, 1, none⟩ b) w.heap.size u L := by
  have hz := heap_setCell_same _ (w.heap.size + 1) 1 _ _ b (heap_setCell_same W' (w.heap.size + 1) 0 _ _ a (h.at hb).2.1)
  have hs := h.sz
  refine ⟨⟨cell_of_row _ _ _ _ _ _ hz, cell_of_row _ _ _ _ _ _ hz⟩, ?_, fun u L ho => (ho.far fun g hg => ?_).low h.bl.size⟩
  · exact Below.setCell (p := ⟨w.heap.size + 1, 1, none⟩) (Below.setCell (p := ⟨w.heap.size + 1, 0, none⟩) (bl3 h.bl hb) (by show w.heap.size ≤ w.heap.size + 1; omega) _) (by show w.heap.size ≤ w.heap.size + 1; omega) _
  · have := (ho.lt hg).1
    rw [set_far (by omega), set_far (by omega)]
set_option maxHeartbeats 8000000 in
theorem turn_any (w : World) (n : Int) (v : Value) (l : List (Int × Int)) (hv : GS KE w v l) : Calls Try.prog 27 #[.agg #[.int .i64 n, v]] w fun e w' => AnsG w (tuN n l) (tuL n l) (chkG n l) e w' := by
  obtain ⟨p, c, rfl⟩ := hv.form
  have TB := hid (TB2.mk_ w n (.slice p l.length c))
  generalize hW : (w.alloc (.cells #[.int .i64 n, .slice p l.length c] 24)).alloc (.cells #[.int .i64 0, .slice none 0 0] 24) = W at *
  have CK := hid (check_any W n _ l (hv.below TB.out.bl))
  obtain ⟨⟨d0, d1⟩, _, d2, d3, d4⟩ := TB.out.at (Below.refl _ _)
  by_cases h0 : chkG n l = 0
  · have e1 : tuN n l = n := by unfold tuN; rw [if_pos h0]
    have e2 : tuL n l = l.map swE := by unfold tuL; rw [if_pos h0]
    rw [e1, e2, h0]
    rw [h0] at CK
    have TU := hid (fun W' (hb : Below W.heap.size W W') => turned_any W' n _ l ((hv.below TB.out.bl).below hb) (chk_len h0))
    clear e1 e2 h0 hv
    have ML : (l.map swE).length = l.length := by simp
    have PU := hid (fun W' (hb : Below W.heap.size W W') (p5 : Option Addr) (c5 : Nat) => TB.out.put hb (.int .i64 n) (.slice p5 l.length c5))
    have AT := hid (fun W' (hb : Below W.heap.size W W') => TB.out.at hb)
    rw [show AnsG w n (l.map swE) 0 = fun e w' => ∃ p c, e = .returned (.tuple #[.agg #[.int .i64 n, .slice p (l.map swE).length c], .int .i64 0]) ∧ OwnG KE w' w.heap.size (.slice p (l.map swE).length c) (l.map swE) ∧ Below w.heap.size w w' from rfl]
    rw [ML]
    clear TB ML
    obtain ⟨L, hL⟩ : ∃ L, L = l.map swE := ⟨_, rfl⟩
    rw [← hL] at TU ⊢
    clear hL
    generalize l.length = m at *
    go_enter Try.func27, Try.ntmps27
    go_wp2_with (first | (go_at_call 31; refine CK.out.mono ?_; rintro e w6 ⟨rfl, hb6⟩; have B6 := hid hb6; obtain ⟨⟨g0, g1⟩, _, g2, g3, g4⟩ := AT.out _ hb6; clear hb6) | (go_at_call 54; refine (TU.out _ B6.out).mono ?_; rintro e w7 ⟨p7, c7, rfl, o7, b7⟩; have B7 := hid (bl3 B6.out b7); have O7 := hid (o7.low B6.out.size); obtain ⟨⟨k0, k1⟩, _, k2, k3, k4⟩ := AT.out _ B7.out; obtain ⟨⟨r0, r1⟩, f2, f3⟩ := PU.out _ B7.out p7 c7; have F2 := hid f2; have F3 := hid (f3 _ _ O7.out); clear o7 b7 f2 f3))
    refine bodyPost_ret (v := .tuple #[.agg #[.int .i64 n, .slice p7 m c7], .int .i64 0]) (by simp [results, Try.results27, go_sem, r0, r1]) rfl ?_
    exact ⟨p7, c7, rfl, F3.out, F2.out⟩
  · have e1 : tuN n l = 0 := by unfold tuN; rw [if_neg h0]
    have e2 : tuL n l = [] := by unfold tuL; rw [if_neg h0]
    rw [e1, e2]
    have PU := hid (fun W' (hb : Below W.heap.size W W') => TB.out.put hb (.int .i64 0) (.slice none 0 0))
    have AT := hid (fun W' (hb : Below W.heap.size W W') => TB.out.at hb)
    clear e1 e2 hv TB
    generalize chkG n l = r at *
    have b1 : (r != 0) = true := by simp [h0]
    go_enter Try.func27, Try.ntmps27
    go_wp2_with (go_at_call 31; refine CK.out.mono ?_; rintro e w6 ⟨rfl, hb6⟩; have B6 := hid hb6; obtain ⟨⟨g0, g1⟩, _, g2, g3, g4⟩ := AT.out _ hb6; obtain ⟨⟨r0, r1⟩, f2, f3⟩ := PU.out _ hb6; have F2 := hid f2; clear hb6 f2 f3)
    refine bodyPost_ret (v := .tuple #[.agg #[.int .i64 0, .slice none 0 0], .int .i64 r]) (by simp [results, Try.results27, go_sem, r0, r1]) rfl ?_
    exact ⟨none, 0, rfl, OwnG.nil _ _ _, F2.out⟩
/-- The document's Turn: its box and its row. -/
structure TR (W : World) (n : Int) (bb : Nat) (q : Option Addr) (c : Nat) (L : List (Int × Int)) (wk : World) : Prop where
  bl : Below W.heap.size W wk
  bx : wk.heap[bb]? = some (.cells #[.int .i64 n, .slice q L.length c] 24)
  ow : OwnG KE wk W.heap.size (.slice q L.length c) L
  ge : W.heap.size ≤ bb
theorem TR.push {W : World} {n : Int} {bb : Nat} {q : Option Addr} {c : Nat} {L : List (Int × Int)} {wk w1 w8 : World} (h : TR W n bb q c L wk) {x : Int × Int} {g8 c8 : Nat} (h1 : Below wk.heap.size wk w1) (ho : OwnG KE w8 W.heap.size (.slice (some ⟨g8, 0, none⟩) (L.length + 1) c8) (L ++ [x])) (hb8 : Below W.heap.size w1 w8) (hk : ∀ k, k < w1.heap.size → some k ≠ (Value.slice q L.length c).ownBlock → w8.heap[k]? = w1.heap[k]?) : TR W n bb (some ⟨g8, 0, none⟩) c8 (L ++ [x]) (w8.setCell ⟨bb, 1, none⟩ (.slice (some ⟨g8, 0, none⟩) (L.length + 1) c8)) ∧ (w8.cell? ⟨bb, 1, none⟩ = some (.slice q L.length c)) ∧ ∀ o, w8.frozen? ⟨bb, o, none⟩ = false := by
  have hB1 := (h1.block _ (lt_of_heap h.bx)).trans h.bx
  have nB : (Value.slice q L.length c).ownBlock ≠ some bb := (h.ow.below h1).notat hB1 (by decide)
  have hB8 := (hk bb (lt_of_heap hB1) (fun e => nB e.symm)).trans hB1
  have hlen : (L ++ [x]).length = L.length + 1 := by simp
  refine ⟨⟨Below.setCell (p := ⟨bb, 1, none⟩) ((h.bl.trans (h1.mono h.bl.size)).trans hb8) h.ge _, ?_, ?_, h.ge⟩, cell_of_row _ _ _ _ _ _ hB8, fun o => by simp [World.frozen?, hB8]⟩
  · rw [hlen]; exact heap_setCell_same w8 bb 1 _ _ _ hB8
  · rw [hlen]
    refine ho.far fun g hg2 => set_far (fun e => ?_)
    subst e
    exact ho.notat hB8 (by decide) hg2
set_option maxRecDepth 100000 in
set_option maxHeartbeats 16000000 in
theorem rTurn_any (w : World) (n : Int) (v : Value) (l : List (Int × Int)) (hv : GS KE w v l) : Calls Try.prog 79 #[.agg #[.int .i64 n, v]] w fun e w' => AnsG w (tuN n l) (tuL n l) (chkG n l) e w' := by
  obtain ⟨p, c, rfl⟩ := hv.form
  have TB := hid (TB2.mk_ w n (.slice p l.length c))
  generalize hW : (w.alloc (.cells #[.int .i64 n, .slice p l.length c] 24)).alloc (.cells #[.int .i64 0, .slice none 0 0] 24) = W at *
  have CK := hid (rcheck_any W n _ l (hv.below TB.out.bl))
  obtain ⟨⟨d0, d1⟩, _, d2, d3, d4⟩ := TB.out.at (Below.refl _ _)
  by_cases h0 : chkG n l = 0
  · have e1 : tuN n l = n := by unfold tuN; rw [if_pos h0]
    have e2 : tuL n l = l.map swE := by unfold tuL; rw [if_pos h0]
    rw [e1, e2, h0]
    rw [h0] at CK
    have A1 := hid (fun w' (hb : Below w.heap.size w w') j (hj : j < l.length) => GS.atE (hv.below hb) hj)
    have a4 := chk_len h0
    obtain ⟨m, hm⟩ : ∃ m, m = l.length := ⟨_, rfl⟩
    rw [← hm] at TB CK d1 a4 hW ⊢
    have M1 : Hid (l.length = m) := hm.symm
    have AT := hid (fun W' (hb : Below W.heap.size W W') => TB.out.at hb)
    clear e1 e2 h0 hv hm
    go_enter Try.func79, Try.ntmps79
    go_upto_region 5 with (go_at_call 37; refine CK.out.mono ?_; rintro e w6 ⟨rfl, hb6⟩; have B6 := hid hb6; obtain ⟨⟨g0, g1⟩, _, g2, g3, g4⟩ := AT.out _ hb6; clear hb6)
    have Q0 : Hid (TR W n w6.heap.size none 0 ((l.take 0).map swE) (w6.alloc (.cells #[.int .i64 n, .slice none 0 0] 24))) := ⟨bl3 B6.out (bal _ _), heap_alloc_new _ _, OwnG.nil _ _ _, B6.out.size⟩
    obtain ⟨bb, hbb⟩ : ∃ bb, bb = w6.heap.size := ⟨_, rfl⟩
    rw [← hbb] at Q0 ⊢
    generalize w6.alloc (.cells #[.int .i64 n, .slice none 0 0] 24) = W7 at *
    obtain ⟨sz, hsz⟩ : ∃ sz, sz = w.heap.size := ⟨_, rfl⟩
    rw [← hsz] at AT ⊢
    have HZ := hid hsz
    clear hsz hbb d0 d1 d2 d3 d4 g0 g1 g2 g3 g4 CK hW
    go_wp2_with fail
    go_loopw [6] (fun v6 wr => ∃ (j : Nat) (L : List (Int × Int)) (q : Option Addr) (cq : Nat) (wk : World), v6 = .int .i64 j ∧ wk = wr ∧ j ≤ m ∧ Hid (L = (l.take j).map swE) ∧ Hid (TR W n bb q cq L wk)) (fun v6 _ => m - (intOf v6).toNat)
    case atStart => exact ⟨0, _, _, _, _, rfl, rfl, Nat.zero_le _, rfl, Q0⟩
    case round =>
      obtain ⟨j, L, q, cq, wr, rfl, rfl, hj, HL, HT⟩ := hrel
      clear Q0
      obtain ⟨⟨d0, d1⟩, z4, d2, d3, d4⟩ := AT.out wr HT.out.bl
      by_cases hlt : j < m
      · have j1 : j < l.length := by have := M1.out; omega
        obtain ⟨X, o, e1, hX, c1, c2⟩ := A1.out wr (bl3 TB.out.bl HT.out.bl) j j1
        subst e1
        have hji : (j : Int) < (m : Nat) := by omega
        have hj0 : (0 : Int) ≤ (j : Nat) := by omega
        have LL : L.length ≤ 16384 := by rw [HL.out, List.length_map, List.length_take]; omega
        have LS : Hid ((L.length + 1) * KE.B ≤ 140737488355328) := by show (_ + 1) * 16 ≤ _; omega
        have L2 : Hid (L ++ [(l[j].2, l[j].1)] = (l.take (j + 1)).map swE) := by show _ = _; rw [List.take_succ_eq_append_getElem j1, List.map_append, HL.out]; rfl
        have BX : Hid (wr.heap[bb]? = some (.cells #[.int .i64 n, .slice q L.length cq] 24)) := HT.out.bx
        have hbl := lt_of_heap HT.out.bx
        have x0 : wr.cell? ⟨bb, 1, none⟩ = some (.slice q L.length cq) := cell_of_row _ _ _ _ _ _ HT.out.bx
        have x1 : ∀ ob, (wr.alloc ob).cell? ⟨bb, 1, none⟩ = some (.slice q L.length cq) := fun ob => ((bal wr ob).cell (p := ⟨bb, 1, none⟩) hbl).trans x0
        have GC : Hid (∀ W', Below W.heap.size W W' → W'.cell? ⟨sz, 1, none⟩ = some (.slice (some ⟨X, o, none⟩) m c) ∧ W'.cell? ⟨X, o + j * 2, none⟩ = some (.int .i64 l[j].1) ∧ W'.cell? ⟨X, o + j * 2 + 1, none⟩ = some (.int .i64 l[j].2)) := fun W' hb => by
          obtain ⟨X2, o2, e2, _, y1, y2⟩ := A1.out W' (bl3 TB.out.bl hb) j j1
          injection e2 with e2
          injection e2 with e2 e3 _
          subst e2 e3
          exact ⟨(AT.out W' hb).1.2, y1, y2⟩
        have BD : Hid (Below wr.heap.size wr wr.drew) := drew_below wr 1
        have BJ := hid HT.out.bl
        have OW := hid HT.out.ow
        have PU := hid (fun (x : Int × Int) w1 w8 g8 c8 (h1 : Below wr.heap.size wr w1) => HT.out.push (x := x) (w1 := w1) (w8 := w8) (g8 := g8) (c8 := c8) h1)
        have GEB : Hid (W.heap.size ≤ bb) := HT.out.ge
        generalize l[j].1 = x at *
        generalize l[j].2 = y at *
        go_wp2_with fail
        refine wp_region_held_drew (S := (fun w' => w'.cell? ⟨sz, 1, none⟩ = some (.slice (some ⟨X, o, none⟩) m c) ∧ w'.cell? ⟨X, o + j * 2, none⟩ = some (.int .i64 x) ∧ w'.cell? ⟨X, o + j * 2 + 1, none⟩ = some (.int .i64 y))) (by kernel_rfl) ?_ (fun hHeld => ?_)
        · exact GC.out _ (bl3 BJ.out BD.out)
        refine wpAnyH_take (i := 0) (oi := { dst := some 23, op := Op.fieldAddr 24 (Operand.tmp 5) 1, type := 0, pos := "ref.go:57", after := #[], guard := none }) (v := ?_) rfl (by kernel_rfl) (by kernel_rfl) (by kernel_rfl) (fun _ _ _ h => h) (Or.inl ⟨by rfl, ?_⟩) (by assumption) ?_
        rotate_left
        · intro w hSw
          try dsimp only at hSw
          go_simp
          try with_reducible rfl
        try simp only [Act.put, List.setIfInBounds_toArray, List.set_cons_zero, List.set_cons_succ]
        refine wpAnyH_take (i := 2) (oi := { dst := some 25, op := Op.fieldAddr 24 (Operand.tmp 1) 1, type := 0, pos := "ref.go:57", after := #[], guard := none }) (v := ?_) rfl (by kernel_rfl) (by kernel_rfl) (by kernel_rfl) (fun _ _ _ h => h) (Or.inl ⟨by rfl, ?_⟩) (by assumption) ?_
        rotate_left
        · intro w hSw
          try dsimp only at hSw
          go_simp
          try with_reducible rfl
        try simp only [Act.put, List.setIfInBounds_toArray, List.set_cons_zero, List.set_cons_succ]
        refine wpAnyH_take (i := 3) (oi := { dst := some 26, op := Op.load 22 (Operand.tmp 25), type := 22, pos := "ref.go:57", after := #[{ on := 2, ground := Ground.data }], guard := none }) (v := ?_) rfl (by kernel_rfl) (by kernel_rfl) (by kernel_rfl) (fun _ _ _ h => h) (Or.inl ⟨by rfl, ?_⟩) (by assumption) ?_
        rotate_left
        · intro w hSw
          try dsimp only at hSw
          go_simp
          try with_reducible rfl
        try simp only [Act.put, List.setIfInBounds_toArray, List.set_cons_zero, List.set_cons_succ]
        refine wpAnyH_take (i := 4) (oi := { dst := some 27, op := Op.move (Operand.tmp 6), type := 3, pos := "ref.go:57", after := #[], guard := none }) (v := ?_) rfl (by kernel_rfl) (by kernel_rfl) (by kernel_rfl) (fun _ _ _ h => h) (Or.inl ⟨by rfl, ?_⟩) (by assumption) ?_
        rotate_left
        · intro w hSw
          try dsimp only at hSw
          go_simp
          try with_reducible rfl
        try simp only [Act.put, List.setIfInBounds_toArray, List.set_cons_zero, List.set_cons_succ]
        refine wpAnyH_take (i := 5) (oi := { dst := some 28, op := Op.indexAddr 22 (Operand.tmp 26) (Operand.tmp 27), type := 0, pos := "ref.go:57", after := #[{ on := 3, ground := Ground.data }, { on := 4, ground := Ground.data }], guard := none }) (v := ?_) rfl (by kernel_rfl) (by kernel_rfl) (by kernel_rfl) (fun _ _ _ h => h) (Or.inl ⟨by rfl, ?_⟩) (by assumption) ?_
        rotate_left
        · intro w hSw
          try dsimp only at hSw
          go_simp
          try with_reducible rfl
        try simp only [Act.put, List.setIfInBounds_toArray, List.set_cons_zero, List.set_cons_succ]
        refine wpAnyH_take (i := 6) (oi := { dst := some 29, op := Op.fieldAddr 47 (Operand.tmp 28) 1, type := 0, pos := "ref.go:57", after := #[{ on := 5, ground := Ground.data }], guard := none }) (v := ?_) rfl (by kernel_rfl) (by kernel_rfl) (by kernel_rfl) (fun _ _ _ h => h) (Or.inl ⟨by rfl, ?_⟩) (by assumption) ?_
        rotate_left
        · intro w hSw
          try dsimp only at hSw
          go_simp
          try with_reducible rfl
        try simp only [Act.put, List.setIfInBounds_toArray, List.set_cons_zero, List.set_cons_succ]
        refine wpAnyH_take (i := 7) (oi := { dst := some 30, op := Op.load 3 (Operand.tmp 29), type := 3, pos := "ref.go:57", after := #[{ on := 6, ground := Ground.data }], guard := none }) (v := ?_) rfl (by kernel_rfl) (by kernel_rfl) (by kernel_rfl) (fun _ _ _ h => h) (Or.inl ⟨by rfl, ?_⟩) (by assumption) ?_
        rotate_left
        · intro w hSw
          try dsimp only at hSw
          go_simp
          try with_reducible rfl
        try simp only [Act.put, List.setIfInBounds_toArray, List.set_cons_zero, List.set_cons_succ]
        refine wpAnyH_take (i := 8) (oi := { dst := some 31, op := Op.fieldAddr 24 (Operand.tmp 1) 1, type := 0, pos := "ref.go:57", after := #[], guard := none }) (v := ?_) rfl (by kernel_rfl) (by kernel_rfl) (by kernel_rfl) (fun _ _ _ h => h) (Or.inl ⟨by rfl, ?_⟩) (by assumption) ?_
        rotate_left
        · intro w hSw
          try dsimp only at hSw
          go_simp
          try with_reducible rfl
        try simp only [Act.put, List.setIfInBounds_toArray, List.set_cons_zero, List.set_cons_succ]
        refine wpAnyH_take (i := 9) (oi := { dst := some 32, op := Op.load 22 (Operand.tmp 31), type := 22, pos := "ref.go:57", after := #[{ on := 8, ground := Ground.data }], guard := none }) (v := ?_) rfl (by kernel_rfl) (by kernel_rfl) (by kernel_rfl) (fun _ _ _ h => h) (Or.inl ⟨by rfl, ?_⟩) (by assumption) ?_
        rotate_left
        · intro w hSw
          try dsimp only at hSw
          go_simp
          try with_reducible rfl
        try simp only [Act.put, List.setIfInBounds_toArray, List.set_cons_zero, List.set_cons_succ]
        refine wpAnyH_take (i := 10) (oi := { dst := some 33, op := Op.move (Operand.tmp 6), type := 3, pos := "ref.go:57", after := #[], guard := none }) (v := ?_) rfl (by kernel_rfl) (by kernel_rfl) (by kernel_rfl) (fun _ _ _ h => h) (Or.inl ⟨by rfl, ?_⟩) (by assumption) ?_
        rotate_left
        · intro w hSw
          try dsimp only at hSw
          go_simp
          try with_reducible rfl
        try simp only [Act.put, List.setIfInBounds_toArray, List.set_cons_zero, List.set_cons_succ]
        refine wpAnyH_take (i := 11) (oi := { dst := some 34, op := Op.indexAddr 22 (Operand.tmp 32) (Operand.tmp 33), type := 0, pos := "ref.go:57", after := #[{ on := 9, ground := Ground.data }, { on := 10, ground := Ground.data }], guard := none }) (v := ?_) rfl (by kernel_rfl) (by kernel_rfl) (by kernel_rfl) (fun _ _ _ h => h) (Or.inl ⟨by rfl, ?_⟩) (by assumption) ?_
        rotate_left
        · intro w hSw
          try dsimp only at hSw
          go_simp
          try with_reducible rfl
        try simp only [Act.put, List.setIfInBounds_toArray, List.set_cons_zero, List.set_cons_succ]
        refine wpAnyH_take (i := 12) (oi := { dst := some 35, op := Op.fieldAddr 47 (Operand.tmp 34) 0, type := 0, pos := "ref.go:57", after := #[{ on := 11, ground := Ground.data }], guard := none }) (v := ?_) rfl (by kernel_rfl) (by kernel_rfl) (by kernel_rfl) (fun _ _ _ h => h) (Or.inl ⟨by rfl, ?_⟩) (by assumption) ?_
        rotate_left
        · intro w hSw
          try dsimp only at hSw
          go_simp
          try with_reducible rfl
        try simp only [Act.put, List.setIfInBounds_toArray, List.set_cons_zero, List.set_cons_succ]
        refine wpAnyH_take (i := 13) (oi := { dst := some 36, op := Op.load 3 (Operand.tmp 35), type := 3, pos := "ref.go:57", after := #[{ on := 12, ground := Ground.data }], guard := none }) (v := ?_) rfl (by kernel_rfl) (by kernel_rfl) (by kernel_rfl) (fun _ _ _ h => h) (Or.inl ⟨by rfl, ?_⟩) (by assumption) ?_
        rotate_left
        · intro w hSw
          try dsimp only at hSw
          go_simp
          try with_reducible rfl
        try simp only [Act.put, List.setIfInBounds_toArray, List.set_cons_zero, List.set_cons_succ]
        refine wpAnyH_take (i := 14) (oi := { dst := some 37, op := Op.build 47 #[(0, Operand.tmp 30), (1, Operand.tmp 36)], type := 47, pos := "ref.go:57", after := #[{ on := 7, ground := Ground.data }, { on := 13, ground := Ground.data }], guard := none }) (v := ?_) rfl (by kernel_rfl) (by kernel_rfl) (by kernel_rfl) (fun _ _ _ h => h) (Or.inl ⟨by rfl, ?_⟩) (by assumption) ?_
        rotate_left
        · intro w hSw
          try dsimp only at hSw
          go_simp
          try with_reducible rfl
        try simp only [Act.put, List.setIfInBounds_toArray, List.set_cons_zero, List.set_cons_succ]
        refine wpAnyH_ready (rs := [1, 15]) (by kernel_rfl) (by simp) ?_
        refine (AllReadyH.cons (o := { dst := some 24, op := Op.load 22 (Operand.tmp 23), type := 22, pos := "ref.go:57", after := #[{ on := 0, ground := Ground.data }], guard := none }) rfl (fun K hK => ?_) (AllReadyH.cons (o := { dst := some 38, op := Op.buildSlice 22 1 #[(0, Operand.tmp 37)], type := 22, pos := "ref.go:57", after := #[{ on := 14, ground := Ground.data }], guard := none }) rfl (fun K hK => ?_) AllReadyH.nil))
        · go_simp
          refine hK.out _ _ ?_ (fun hHeld => ?_)
          · exact GC.out _ (by first | exact bl3 BJ.out BD.out | exact bl3 (bl3 BJ.out BD.out) (bal _ _) | exact bl3 BJ.out (bal _ _))
          clear hK K
          try simp only [Act.put, List.setIfInBounds_toArray, List.set_cons_zero, List.set_cons_succ]
          refine wpAnyH_ready (rs := [15]) (by kernel_rfl) (by simp) ?_
          refine AllReadyH.cons (o := { dst := some 38, op := Op.buildSlice 22 1 #[(0, Operand.tmp 37)], type := 22, pos := "ref.go:57", after := #[{ on := 14, ground := Ground.data }], guard := none }) rfl (fun K hK => ?_) AllReadyH.nil
          go_simp
          refine hK.out _ _ ?_ (fun hHeld => ?_)
          · exact GC.out _ (by first | exact bl3 BJ.out BD.out | exact bl3 (bl3 BJ.out BD.out) (bal _ _) | exact bl3 BJ.out (bal _ _))
          clear hK K
          try simp only [Act.put, List.setIfInBounds_toArray, List.set_cons_zero, List.set_cons_succ]
          refine wpAnyH_ready (rs := [16]) (by kernel_rfl) (by simp) ?_
          refine AllReadyH.cons (o := { dst := some 39, op := Op.call { callee := Callee.builtin Builtin.append, args := #[Operand.tmp 24, Operand.tmp 38], argTypes := #[22, 22] }, type := 22, pos := "ref.go:57", after := #[{ on := 1, ground := Ground.data }, { on := 15, ground := Ground.data }], guard := none }) rfl (fun K hK => ?_) AllReadyH.nil
          refine step_append_g KE KE_ok (by rfl) (.tmp 24) (.tmp 38) 22 (by rfl) W.heap.size Try.underlying22 _ _ _ _ (by first | exact heap_alloc_new _ _) (.slice q L.length cq) L (y, x) _ (by rfl) (OwnG.below OW.out (by first | exact (Below.refl _ _).alloc (Nat.le_refl _) _ | exact ((Below.refl _ _).drew).alloc (Nat.le_refl _) _)) (by rfl) (by rfl) LS.out (by have := BJ.out.size; first | (simp; exact this) | (simp; omega)) ?_
          intro g8 c8 w8 o8 b8 k8 q8
          obtain ⟨m1, m3, m4⟩ := PU.out (y, x) _ w8 g8 c8 (by first | exact (Below.refl _ _).alloc (Nat.le_refl _) _ | exact ((Below.refl _ _).drew).alloc (Nat.le_refl _) _) o8 b8 k8
          have B8 : Hid (Below W.heap.size W w8) := (by first | exact (bl3 BJ.out (bal _ _)).trans b8 | exact (bl3 BJ.out (((Below.refl _ _).drew).alloc (Nat.le_refl _) _)).trans b8)
          have N1 := hid m1
          clear m1 o8 b8 q8 k8
          refine hK.out _ _ ?_ (fun hHeld => ?_)
          · exact GC.out _ B8.out
          clear hK K
          try simp only [Act.put, List.setIfInBounds_toArray, List.set_cons_zero, List.set_cons_succ]
          refine wpAnyH_take (i := 17) (oi := { dst := some 40, op := Op.fieldAddr 24 (Operand.tmp 5) 1, type := 0, pos := "ref.go:57", after := #[{ on := 0, ground := Ground.phase }, { on := 1, ground := Ground.phase }, { on := 2, ground := Ground.phase }, { on := 3, ground := Ground.phase }, { on := 4, ground := Ground.phase }, { on := 5, ground := Ground.phase }, { on := 6, ground := Ground.phase }, { on := 7, ground := Ground.phase }, { on := 8, ground := Ground.phase }, { on := 9, ground := Ground.phase }, { on := 10, ground := Ground.phase }, { on := 11, ground := Ground.phase }, { on := 12, ground := Ground.phase }, { on := 13, ground := Ground.phase }, { on := 14, ground := Ground.phase }, { on := 15, ground := Ground.phase }, { on := 16, ground := Ground.phase }], guard := none }) (v := ?_) rfl (by kernel_rfl) (by kernel_rfl) (by kernel_rfl) (fun _ _ _ h => h) (Or.inl ⟨by rfl, ?_⟩) (by assumption) ?_
          rotate_left
          · intro w hSw
            try dsimp only at hSw
            go_simp
            try with_reducible rfl
          try simp only [Act.put, List.setIfInBounds_toArray, List.set_cons_zero, List.set_cons_succ]
          refine wpAnyH_ready (rs := [18]) (by kernel_rfl) (by simp) ?_
          refine AllReadyH.cons (o := { dst := none, op := Op.store 22 (Operand.tmp 40) (Operand.tmp 39), type := 0, pos := "ref.go:57", after := #[{ on := 17, ground := Ground.data }, { on := 16, ground := Ground.data }, { on := 16, ground := Ground.chain }, { on := 0, ground := Ground.phase }, { on := 1, ground := Ground.phase }, { on := 2, ground := Ground.phase }, { on := 3, ground := Ground.phase }, { on := 4, ground := Ground.phase }, { on := 5, ground := Ground.phase }, { on := 6, ground := Ground.phase }, { on := 7, ground := Ground.phase }, { on := 8, ground := Ground.phase }, { on := 9, ground := Ground.phase }, { on := 10, ground := Ground.phase }, { on := 11, ground := Ground.phase }, { on := 12, ground := Ground.phase }, { on := 13, ground := Ground.phase }, { on := 14, ground := Ground.phase }, { on := 15, ground := Ground.phase }, { on := 16, ground := Ground.phase }], guard := none }) rfl (fun K hK => ?_) AllReadyH.nil
          go_simp
          refine hK.out _ _ ?_ (fun hHeld => ?_)
          · exact GC.out _ (Below.setCell (p := ⟨bb, 1, none⟩) B8.out GEB.out _)
          clear hK K
          try simp only [Act.put, List.setIfInBounds_toArray, List.set_cons_zero, List.set_cons_succ]
          refine wpAnyH_done (by kernel_rfl) ?_ _
          go_wp2
          go_roundw
          case rel => exact ⟨j + 1, L ++ [(y, x)], _, _, _, by go_num, rfl, by omega, L2, N1⟩
          case measure => simp [intOf]; omega
        · go_simp
          refine hK.out _ _ ?_ (fun hHeld => ?_)
          · exact GC.out _ (by first | exact bl3 BJ.out BD.out | exact bl3 (bl3 BJ.out BD.out) (bal _ _) | exact bl3 BJ.out (bal _ _))
          clear hK K
          try simp only [Act.put, List.setIfInBounds_toArray, List.set_cons_zero, List.set_cons_succ]
          refine wpAnyH_ready (rs := [1]) (by kernel_rfl) (by simp) ?_
          refine AllReadyH.cons (o := { dst := some 24, op := Op.load 22 (Operand.tmp 23), type := 22, pos := "ref.go:57", after := #[{ on := 0, ground := Ground.data }], guard := none }) rfl (fun K hK => ?_) AllReadyH.nil
          go_simp
          refine hK.out _ _ ?_ (fun hHeld => ?_)
          · exact GC.out _ (by first | exact bl3 BJ.out BD.out | exact bl3 (bl3 BJ.out BD.out) (bal _ _) | exact bl3 BJ.out (bal _ _))
          clear hK K
          try simp only [Act.put, List.setIfInBounds_toArray, List.set_cons_zero, List.set_cons_succ]
          refine wpAnyH_ready (rs := [16]) (by kernel_rfl) (by simp) ?_
          refine AllReadyH.cons (o := { dst := some 39, op := Op.call { callee := Callee.builtin Builtin.append, args := #[Operand.tmp 24, Operand.tmp 38], argTypes := #[22, 22] }, type := 22, pos := "ref.go:57", after := #[{ on := 1, ground := Ground.data }, { on := 15, ground := Ground.data }], guard := none }) rfl (fun K hK => ?_) AllReadyH.nil
          refine step_append_g KE KE_ok (by rfl) (.tmp 24) (.tmp 38) 22 (by rfl) W.heap.size Try.underlying22 _ _ _ _ (by first | exact heap_alloc_new _ _) (.slice q L.length cq) L (y, x) _ (by rfl) (OwnG.below OW.out (by first | exact (Below.refl _ _).alloc (Nat.le_refl _) _ | exact ((Below.refl _ _).drew).alloc (Nat.le_refl _) _)) (by rfl) (by rfl) LS.out (by have := BJ.out.size; first | (simp; exact this) | (simp; omega)) ?_
          intro g8 c8 w8 o8 b8 k8 q8
          obtain ⟨m1, m3, m4⟩ := PU.out (y, x) _ w8 g8 c8 (by first | exact (Below.refl _ _).alloc (Nat.le_refl _) _ | exact ((Below.refl _ _).drew).alloc (Nat.le_refl _) _) o8 b8 k8
          have B8 : Hid (Below W.heap.size W w8) := (by first | exact (bl3 BJ.out (bal _ _)).trans b8 | exact (bl3 BJ.out (((Below.refl _ _).drew).alloc (Nat.le_refl _) _)).trans b8)
          have N1 := hid m1
          clear m1 o8 b8 q8 k8
          refine hK.out _ _ ?_ (fun hHeld => ?_)
          · exact GC.out _ B8.out
          clear hK K
          try simp only [Act.put, List.setIfInBounds_toArray, List.set_cons_zero, List.set_cons_succ]
          refine wpAnyH_take (i := 17) (oi := { dst := some 40, op := Op.fieldAddr 24 (Operand.tmp 5) 1, type := 0, pos := "ref.go:57", after := #[{ on := 0, ground := Ground.phase }, { on := 1, ground := Ground.phase }, { on := 2, ground := Ground.phase }, { on := 3, ground := Ground.phase }, { on := 4, ground := Ground.phase }, { on := 5, ground := Ground.phase }, { on := 6, ground := Ground.phase }, { on := 7, ground := Ground.phase }, { on := 8, ground := Ground.phase }, { on := 9, ground := Ground.phase }, { on := 10, ground := Ground.phase }, { on := 11, ground := Ground.phase }, { on := 12, ground := Ground.phase }, { on := 13, ground := Ground.phase }, { on := 14, ground := Ground.phase }, { on := 15, ground := Ground.phase }, { on := 16, ground := Ground.phase }], guard := none }) (v := ?_) rfl (by kernel_rfl) (by kernel_rfl) (by kernel_rfl) (fun _ _ _ h => h) (Or.inl ⟨by rfl, ?_⟩) (by assumption) ?_
          rotate_left
          · intro w hSw
            try dsimp only at hSw
            go_simp
            try with_reducible rfl
          try simp only [Act.put, List.setIfInBounds_toArray, List.set_cons_zero, List.set_cons_succ]
          refine wpAnyH_ready (rs := [18]) (by kernel_rfl) (by simp) ?_
          refine AllReadyH.cons (o := { dst := none, op := Op.store 22 (Operand.tmp 40) (Operand.tmp 39), type := 0, pos := "ref.go:57", after := #[{ on := 17, ground := Ground.data }, { on := 16, ground := Ground.data }, { on := 16, ground := Ground.chain }, { on := 0, ground := Ground.phase }, { on := 1, ground := Ground.phase }, { on := 2, ground := Ground.phase }, { on := 3, ground := Ground.phase }, { on := 4, ground := Ground.phase }, { on := 5, ground := Ground.phase }, { on := 6, ground := Ground.phase }, { on := 7, ground := Ground.phase }, { on := 8, ground := Ground.phase }, { on := 9, ground := Ground.phase }, { on := 10, ground := Ground.phase }, { on := 11, ground := Ground.phase }, { on := 12, ground := Ground.phase }, { on := 13, ground := Ground.phase }, { on := 14, ground := Ground.phase }, { on := 15, ground := Ground.phase }, { on := 16, ground := Ground.phase }], guard := none }) rfl (fun K hK => ?_) AllReadyH.nil
          go_simp
          refine hK.out _ _ ?_ (fun hHeld => ?_)
          · exact GC.out _ (Below.setCell (p := ⟨bb, 1, none⟩) B8.out GEB.out _)
          clear hK K
          try simp only [Act.put, List.setIfInBounds_toArray, List.set_cons_zero, List.set_cons_succ]
          refine wpAnyH_done (by kernel_rfl) ?_ _
          go_wp2
          go_roundw
          case rel => exact ⟨j + 1, L ++ [(y, x)], _, _, _, by go_num, rfl, by omega, L2, N1⟩
          case measure => simp [intOf]; omega
      · obtain rfl : j = m := by omega
        have e : L = l.map swE := by rw [HL.out, List.take_of_length_le (by rw [M1.out]; exact Nat.le_refl _)]
        subst e
        have b0 : wr.cell? ⟨bb, 0, none⟩ = some (.int .i64 n) := cell_of_row _ _ _ _ _ _ HT.out.bx
        have b1 : wr.cell? ⟨bb, 1, none⟩ = some (.slice q (l.map swE).length cq) := cell_of_row _ _ _ _ _ _ HT.out.bx
        have PU := TB.out.put HT.out.bl (.int .i64 n) (.slice q (l.map swE).length cq)
        rw [← HZ.out] at PU
        obtain ⟨⟨r0, r1⟩, f2, f3⟩ := PU
        have F2 := hid f2
        have F3 := hid (f3 _ _ HT.out.ow)
        clear f2 f3 HL
        have FF : Hid (∀ ln, ln = (l.map swE).length → AnsG w n (l.map swE) 0 (.returned (.tuple #[.agg #[.int .i64 n, .slice q ln cq], .int .i64 0])) ((wr.setCell ⟨sz + 1, 0, none⟩ (.int .i64 n)).setCell ⟨sz + 1, 1, none⟩ (.slice q ln cq))) := fun ln e => by subst e; exact ⟨q, cq, rfl, by rw [← HZ.out]; exact F3.out, by rw [← HZ.out]; exact F2.out⟩
        obtain ⟨ln, hln⟩ : ∃ ln, ln = (l.map swE).length := ⟨_, rfl⟩
        rw [← hln] at b1 r0 r1
        have FG := hid (FF.out ln hln)
        clear hln F2 F3 FF
        go_wp2
        refine bodyPost_ret (v := .tuple #[.agg #[.int .i64 n, .slice q ln cq], .int .i64 0]) (by simp [results, Try.results79, go_sem, r0, r1]) rfl ?_
        exact FG.out
  · have e1 : tuN n l = 0 := by unfold tuN; rw [if_neg h0]
    have e2 : tuL n l = [] := by unfold tuL; rw [if_neg h0]
    rw [e1, e2]
    have PU := hid (fun W' (hb : Below W.heap.size W W') => TB.out.put hb (.int .i64 0) (.slice none 0 0))
    have AT := hid (fun W' (hb : Below W.heap.size W W') => TB.out.at hb)
    clear e1 e2 hv TB
    generalize chkG n l = r at *
    have b1 : (r != 0) = true := by simp [h0]
    go_enter Try.func79, Try.ntmps79
    go_wp2_with (go_at_call 37; refine CK.out.mono ?_; rintro e w6 ⟨rfl, hb6⟩; have B6 := hid hb6; obtain ⟨⟨g0, g1⟩, _, g2, g3, g4⟩ := AT.out _ hb6; obtain ⟨⟨r0, r1⟩, f2, f3⟩ := PU.out _ hb6; have F2 := hid f2; clear hb6 f2 f3)
    refine bodyPost_ret (v := .tuple #[.agg #[.int .i64 0, .slice none 0 0], .int .i64 r]) (by simp [results, Try.results79, go_sem, r0, r1]) rfl ?_
    exact ⟨none, 0, rfl, OwnG.nil _ _ _, F2.out⟩
end Go.Proofs.Ytghkhceplpjegaa
