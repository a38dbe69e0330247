/- Waiting, the document's side: gone. -/
import Derived.Test.YtofdfofpdfaimaaWr5
namespace Go.Proofs.Ytofdfofpdfaimaa
open Go.RowKit Go.Maps

/-- All but one task. -/
def dropT (M : List Wt) (t : Int) : List Wt := M.filter fun x => !decide (x.task = t)
/-- All but some. -/
def gneL (M G : List Wt) : List Wt := G.foldl (fun M y => dropT M y.task) M
theorem gneL_snoc (M G : List Wt) (y : Wt) : gneL M (G ++ [y]) = dropT (gneL M G) y.task := by simp [gneL, List.foldl_append]
theorem gneL_take (M : List Wt) {G : List Wt} {k : Nat} (hk : k < G.length) : gneL M (G.take (k + 1)) = dropT (gneL M (G.take k)) G[k].task := by
  rw [List.take_succ_eq_append_getElem hk, gneL_snoc]
theorem dropT_len (M : List Wt) (t : Int) : (dropT M t).length ≤ M.length := List.length_filter_le _ _
theorem gneL_sub : ∀ (G M : List Wt), (gneL M G).Sublist M
  | [], _ => List.Sublist.refl _
  | y :: G, M => List.Sublist.trans (gneL_sub G (dropT M y.task)) List.filter_sublist
theorem gneL_mem : ∀ (G M : List Wt) (x : Wt), x ∈ gneL M G ↔ x ∈ M ∧ ∀ y ∈ G, x.task ≠ y.task
  | [], M, x => by simp [gneL]
  | y :: G, M, x => by
    rw [show gneL M (y :: G) = gneL (dropT M y.task) G from rfl, gneL_mem G (dropT M y.task) x, dropT, List.mem_filter]
    constructor
    · rintro ⟨⟨h1, h2⟩, h3⟩
      refine ⟨h1, fun z hz => ?_⟩
      rcases List.mem_cons.1 hz with rfl | hz
      · simpa using h2
      · exact h3 z hz
    · rintro ⟨h1, h2⟩
      exact ⟨⟨h1, by have := h2 y (by simp); simpa using this⟩, fun z hz => h2 z (by simp [hz])⟩
/-- Where a task stands: without it. -/
theorem atT_drop : ∀ (M : List Wt) (t k : Int), M.Pairwise (fun x y => x.task ≠ y.task) → (∃ x ∈ M, x.task = t) → ∃ i : Nat, atT M t k = k + i ∧ i < M.length ∧ M.take i ++ M.drop (i + 1) = dropT M t
  | [], _, _, _, ⟨x, hx, _⟩ => by cases hx
  | x :: l, t, k, hp, h => by
    rw [atT]
    have hp2 := List.pairwise_cons.1 hp
    by_cases e : x.task = t
    · rw [if_pos e]
      refine ⟨0, by omega, by simp, ?_⟩
      have : dropT (x :: l) t = l := by
        unfold dropT
        rw [List.filter_cons, if_neg (by simp [e]), List.filter_eq_self]
        intro y hy
        have := hp2.1 y hy
        rw [e] at this
        simpa using fun q => this q.symm
      rw [this]; simp
    · rw [if_neg e]
      obtain ⟨i, h1, h2, h3⟩ := atT_drop l t (k + 1) hp2.2 (by
        obtain ⟨y, hy, ey⟩ := h
        rcases List.mem_cons.1 hy with rfl | hy
        · exact absurd ey e
        · exact ⟨y, hy, ey⟩)
      refine ⟨i + 1, by rw [h1]; omega, by simp; omega, ?_⟩
      have : dropT (x :: l) t = x :: dropT l t := by unfold dropT; rw [List.filter_cons, if_pos (by simp [e])]
      rw [this, ← h3]
      simp
/-- A room in its box, and the answer's box. -/
structure QC (w : World) (vx : Value) (wk : World) : Prop where
  b0 : wk.heap[w.heap.size]? = some (.cells #[vx] 27)
  b1 : wk.heap[w.heap.size + 1]? = some (.cells #[.slice none 0 0] 27)
  bl : Below w.heap.size w wk
theorem QC.new (w : World) (vx : Value) : QC w vx ((w.alloc (.cells #[vx] 27)).alloc (.cells #[.slice none 0 0] 27)) := by
  refine ⟨(Below.heap_alloc _ _ _ (by simp)).trans (heap_alloc_new w _), ?_, bl3 (bal _ _) (bal _ _)⟩
  have := heap_alloc_new (w.alloc (.cells #[vx] 27)) (.cells #[.slice none 0 0] 27)
  rw [show (w.alloc (.cells #[vx] 27)).heap.size = w.heap.size + 1 by simp] at this
  exact this
theorem QC.below {w w1 w2 : World} {v : Value} (h : QC w v w1) (k : Below w1.heap.size w1 w2) : QC w v w2 := ⟨(k.block _ (lt_of_heap h.b0)).trans h.b0, (k.block _ (lt_of_heap h.b1)).trans h.b1, bl3 h.bl k⟩
theorem QC.lt {w w1 : World} {v : Value} (h : QC w v w1) : w.heap.size + 2 ≤ w1.heap.size := lt_of_heap h.b1
theorem QC.set {w w1 : World} {v : Value} (h : QC w v w1) (u : Value) : QC w u (w1.setCell ⟨w.heap.size, 0, none⟩ u) :=
  ⟨heap_setCell_same w1 _ 0 _ _ u h.b0, (Below.heap_setCell _ _ _ _ (show w.heap.size + 1 ≠ w.heap.size by omega)).trans h.b1, h.bl.setCell (p := ⟨w.heap.size, 0, none⟩) (Nat.le_refl _) u⟩
theorem OwnG.setB {α : Type} {K : RK α} {w : World} {base b o : Nat} {v u : Value} {l : List α} (h : OwnG K w base v l) (hb : b < base) : OwnG K (w.setCell ⟨b, o, none⟩ u) base v l := h.far (fun g hg => Below.heap_setCell _ _ _ _ (by have := (h.lt hg).1; show g ≠ b; omega))
set_option maxHeartbeats 8000000 in
set_option maxRecDepth 100000 in
theorem rgone_any (v vl : Value) (M G : List Wt) (w : World) (h : GS KW w v M) (hg : GS KW w vl G) (hl : M.length ≤ 128) (hlg : G.length ≤ 1000000) (hd : M.Pairwise (fun x y => x.task ≠ y.task)) (hG : G.Pairwise (fun x y => x.task ≠ y.task)) (hs : ∀ y ∈ G, ∃ x ∈ M, x.task = y.task) : Calls Try.prog 54 #[.agg #[v], vl] w fun e w' => ∃ v', e = .returned (.agg #[v']) ∧ GS KW w' v' (gneL M G) ∧ ((v' = v ∧ gneL M G = M) ∨ OwnG KW w' w.heap.size v' (gneL M G)) ∧ Below w.heap.size w w' := by
  obtain ⟨q, cq, rfl⟩ := hg.form
  have HV := hid h
  have HG := hid hg
  obtain ⟨n, hn⟩ : ∃ n, n = G.length := ⟨_, rfl⟩
  have HN := hid hn
  rw [← hn] at HG
  rw [← hn]
  have hl2 : n ≤ 1000000 := by omega
  have PX : Hid (∀ k (hk : k < G.length), ∃ i : Nat, atT (gneL M (G.take k)) G[k].task 0 = i ∧ i < (gneL M (G.take k)).length ∧ (gneL M (G.take k)).take i ++ (gneL M (G.take k)).drop (i + 1) = gneL M (G.take (k + 1))) := fun k hk => by
    have hp := List.Pairwise.sublist (gneL_sub (G.take k) M) hd
    obtain ⟨x, hx, ex⟩ := hs G[k] (List.getElem_mem hk)
    obtain ⟨i, h1, h2, h3⟩ := atT_drop (gneL M (G.take k)) G[k].task 0 hp ⟨x, (gneL_mem _ M x).2 ⟨hx, fun y hy => by
      obtain ⟨j, hj, rfl⟩ := List.getElem_of_mem hy
      have hj2 : j < k := by simp at hj; omega
      have := List.pairwise_iff_getElem.1 hG j k (by omega) hk hj2
      rw [List.getElem_take, ex]
      exact fun e => this e.symm⟩, ex⟩
    exact ⟨i, by rw [h1]; omega, h2, by rw [h3, gneL_take M hk]⟩
  have LX : Hid (∀ k, (gneL M (G.take k)).length ≤ 128) := fun k => Nat.le_trans (gneL_sub _ M).length_le hl
  have FE : Hid (gneL M (G.take n) = gneL M G) := by show _ = _; rw [hn, List.take_length]
  have Q0 := hid (QC.new w v)
  have G0 : Hid (GS KW ((w.alloc (.cells #[v] 27)).alloc (.cells #[.slice none 0 0] 27)) v (gneL M (G.take 0))) := h.below (bl3 (bal w _) (bal _ _))
  generalize hFF : (fun k => gneL M (G.take k)) = FF
  have hF : ∀ k, gneL M (G.take k) = FF k := fun k => by rw [← hFF]
  have F0 : Hid (gneL M (G.take 0) = M) := rfl
  simp only [hF] at PX LX FE G0 F0
  generalize gneL M G = R at *
  clear h hg hn hd hG hs hl hlg hFF hF
  go_enter Try.func54, Try.ntmps54
  go_wp2_with fail
  go_loopw [5] (fun v5 wr => ∃ (k : Nat) (vr : Value) (wk : World), v5 = .int .i64 k ∧ wk = wr ∧ k ≤ n ∧ Hid (QC w vr wk) ∧ Hid (GS KW wk vr (FF k)) ∧ Hid ((vr = v ∧ FF k = M) ∨ OwnG KW wk (w.heap.size + 2) vr (FF k))) (fun v5 _ => n - (intOf v5).toNat)
  case atStart => exact ⟨0, v, _, rfl, rfl, Nat.zero_le _, Q0, G0, Or.inl ⟨rfl, F0.out⟩⟩
  case round =>
    obtain ⟨k, vr, wr, rfl, rfl, hk, HQ, HR, HO⟩ := hrel
    clear Q0 G0
    by_cases hlt : k < n
    · have hkl : k < G.length := by rw [← HN.out]; exact hlt
      obtain ⟨X, o, e1, x0, x1, x2, x3⟩ := (HG.out.below (bl3 HQ.out.bl (drew_below wr 1))).atW hkl
      obtain rfl : q = some ⟨X, o, none⟩ := e1
      obtain ⟨i, hi1, hi2, hi3⟩ := PX.out k hkl
      have AT := hid (fun w' (hb : Below wr.heap.size wr w') => rat_any vr (FF k) G[k].task w' (HR.out.below hb) (by have := LX.out k; omega))
      rw [hi1] at AT
      have WO := hid (fun w' (hb : Below wr.heap.size wr w') => rwithout_any vr (FF k) i w' (HR.out.below hb) hi2 (by have := LX.out k; omega))
      have XC : Hid (∀ w', Below wr.heap.size wr w' → w'.cell? ⟨w.heap.size, 0, none⟩ = some vr ∧ w'.cell? ⟨X, o + k * 4, none⟩ = some (.int .i64 G[k].task) ∧ ∀ z, w'.frozen? ⟨w.heap.size, z, none⟩ = false) := fun w' hb => by
        obtain ⟨X', o', e1, y0, _⟩ := (HG.out.below (bl3 HQ.out.bl hb)).atW hkl
        injection e1 with e1
        injection e1 with e1 e2 _
        subst e1 e2
        exact ⟨box1 (HQ.out.below hb).b0, y0, fun z => by simp [World.frozen?, (HQ.out.below hb).b0]⟩
      have I3 := hid hi3
      have BD : Hid (Below wr.heap.size wr wr.drew) := drew_below wr 1
      generalize G[k].task = t at *
      clear hi1 hi2 hi3 PX LX FE x1 x2 x3
      obtain ⟨c0, _, cf⟩ := XC.out _ BD.out
      go_wp2_with fail
      go_region_with (first
        | (go_at_call 42; refine (AT.out _ BD.out).mono ?_; rintro e w5 ⟨rfl, hb⟩; have B5 : Hid (Below wr.heap.size wr w5) := bl3 BD.out hb; obtain ⟨d0, d1, df⟩ := XC.out _ B5.out; clear hb)
        | (go_at_call 53; refine (WO.out _ B5.out).mono ?_; rintro e w6 ⟨p6, c6, rfl, ho, hb⟩; have O6 := hid ho; have B6 : Hid (Below wr.heap.size wr w6) := bl3 B5.out hb; obtain ⟨f0, f1, ff⟩ := XC.out _ B6.out; clear ho hb))
      all_goals
        have Q7 := hid ((HQ.out.below B6.out).set (.slice p6 ((FF k).length - 1) c6))
        have O7 : Hid (OwnG KW (w6.setCell ⟨w.heap.size, 0, none⟩ (.slice p6 ((FF k).length - 1) c6)) (w.heap.size + 2) (.slice p6 ((FF k).length - 1) c6) (FF (k + 1))) := by
          show OwnG _ _ _ _ _
          rw [← I3.out]
          exact (O6.out.low (Nat.le_trans HQ.out.lt B5.out.size)).setB (by omega)
        clear AT WO XC I3 BD B5 B6 O6 HQ HR HO
        go_wp2_with fail
        go_roundw
        case rel => exact ⟨k + 1, _, _, by go_num, rfl, by omega, Q7, O7.out.gs KW_ok.len, Or.inr O7.out⟩
        case measure => simp [intOf]; omega
    · obtain rfl : k = n := by omega
      rw [FE.out] at HR HO
      obtain ⟨pr, cr, hvr⟩ := HR.out.form
      subst hvr
      have c0 := box1 HQ.out.b0
      have c1 := box1 HQ.out.b1
      have fr : ∀ z, wr.frozen? ⟨w.heap.size + 1, z, none⟩ = false := fun z => by simp [World.frozen?, HQ.out.b1]
      have hz := heap_setCell_same wr (w.heap.size + 1) 0 _ _ (.slice pr R.length cr) HQ.out.b1
      have BZ := HQ.out.bl.setCell (p := ⟨w.heap.size + 1, 0, none⟩) (show w.heap.size ≤ w.heap.size + 1 by omega) (.slice pr R.length cr)
      have OZ : Hid (((.slice pr R.length cr) = v ∧ R = M) ∨ OwnG KW (wr.setCell ⟨w.heap.size + 1, 0, none⟩ (.slice pr R.length cr)) (w.heap.size + 2) (.slice pr R.length cr) R) := HO.out.imp id (fun h => h.setB (by omega))
      have GZ : Hid (GS KW (wr.setCell ⟨w.heap.size + 1, 0, none⟩ (.slice pr R.length cr)) (.slice pr R.length cr) R) := by
        rcases HO.out with ⟨e1, e2⟩ | e
        · rw [e1] at BZ ⊢
          rw [e2]
          exact HV.out.below BZ
        · exact (e.setB (by omega)).gs KW_ok.len
      have hc9 := box1 hz
      clear HO HR HQ FE PX LX
      go_wp2_with fail
      exact bodyPost_ret (v := .agg #[.slice pr R.length cr]) (by simp [results, Try.results54, go_sem, hc9]) rfl ⟨_, rfl, GZ.out, OZ.out.imp id (fun h => h.low (by omega)), BZ⟩
end Go.Proofs.Ytofdfofpdfaimaa
