/- Retry: the law RetryBudget. -/
import Derived.Test.YtgoffnagdpmpnaaXc1
import Derived.Test.YtgoffnagdpmpnaaXc3
import Derived.Test.YtgoffnagdpmpnaaXo1
namespace Go.Proofs.Ytgoffnagdpmpnaa
open Go.RowKit Go.Maps

/-- A budget, and the document's in a box, behind a law's calls. -/
structure DC (w1 : World) (b B2 : Nat) (d : Bd) (wk : World) : Prop where
  dx : DX wk b d
  di : DI d
  cb : wk.heap[B2]? = some (.cells (bdA d) 74)
  ne : b ≠ B2
  bel : Below w1.heap.size w1 wk
  ge : w1.heap.size ≤ b
  ge2 : w1.heap.size ≤ B2
theorem DC.cells {w1 wk : World} {b B2 : Nat} {d : Bd} (h : DC w1 b B2 d wk) : wk.cell? ⟨B2, 0, none⟩ = some (.int .i64 d.mo) ∧ wk.cell? ⟨B2, 1, none⟩ = some (.int .i64 d.co) ∧ wk.cell? ⟨B2, 2, none⟩ = some (.int .i64 d.ga) ∧ wk.cell? ⟨B2, 3, none⟩ = some (.int .i64 d.lv) :=
  ⟨cell_of_row _ _ _ _ _ _ h.cb, cell_of_row _ _ _ _ _ _ h.cb, cell_of_row _ _ _ _ _ _ h.cb, cell_of_row _ _ _ _ _ _ h.cb⟩
theorem DC.below {w1 wk w2 : World} {b B2 : Nat} {d : Bd} (h : DC w1 b B2 d wk) (k : Below wk.heap.size wk w2) : DC w1 b B2 d w2 := ⟨h.dx.below k, h.di, (k.block _ (lt_of_heap h.cb)).trans h.cb, h.ne, bl3 h.bel k, h.ge, h.ge2⟩
theorem DC.tell {w1 wk w2 : World} {b B2 : Nat} {d d2 : Bd} (h : DC w1 b B2 d wk) (k : DX w2 b d2) (q : Below w1.heap.size wk w2) (r : ∀ y, y < wk.heap.size → y ≠ b → w2.heap[y]? = wk.heap[y]?) : DX w2 b d2 ∧ w2.heap[B2]? = some (.cells (bdA d) 74) ∧ Below w1.heap.size w1 w2 := ⟨k, (r _ (lt_of_heap h.cb) (fun e => h.ne e.symm)).trans h.cb, h.bel.trans q⟩
theorem DC.again {w1 w3 : World} {b B2 : Nat} {d : Bd} {x0 x1 x2 x3 : Int} (hk : DX w3 b d) (hi : DI d) (hb : w3.heap[B2]? = some (.cells #[.int .i64 x0, .int .i64 x1, .int .i64 x2, .int .i64 x3] 74)) (hn : b ≠ B2) (hl : Below w1.heap.size w1 w3) (g1 : w1.heap.size ≤ b) (g2 : w1.heap.size ≤ B2) :
    DC w1 b B2 d ((((w3.setCell ⟨B2, 0, none⟩ (.int .i64 d.mo)).setCell ⟨B2, 1, none⟩ (.int .i64 d.co)).setCell ⟨B2, 2, none⟩ (.int .i64 d.ga)).setCell ⟨B2, 3, none⟩ (.int .i64 d.lv)) := by
  have s1 := heap_setCell_same w3 B2 0 _ _ (.int .i64 d.mo) hb
  have s2 := heap_setCell_same _ B2 1 _ _ (.int .i64 d.co) s1
  have s3 := heap_setCell_same _ B2 2 _ _ (.int .i64 d.ga) s2
  have s4 := heap_setCell_same _ B2 3 _ _ (.int .i64 d.lv) s3
  have f : ∀ (w : World) (o : Nat) (v : Value) y, y ≠ B2 → (w.setCell ⟨B2, o, none⟩ v).heap[y]? = w.heap[y]? := fun w o v y hy => Below.heap_setCell _ _ _ _ hy
  refine ⟨hk.far ?_, hi, s4, hn, ?_, g1, g2⟩
  · rw [f _ _ _ _ hn, f _ _ _ _ hn, f _ _ _ _ hn, f _ _ _ _ hn]
  · exact (((hl.setCell (p := ⟨B2, 0, none⟩) g2 _).setCell (p := ⟨B2, 1, none⟩) g2 _).setCell (p := ⟨B2, 2, none⟩) g2 _).setCell (p := ⟨B2, 3, none⟩) g2 _
set_option maxHeartbeats 8000000 in
theorem retryBudget_any (m c g : Int) (v : Value) (l : List Bool) (w : World) (hl : GS KB2 w v l) (hn : l.length ≤ 140737488355328) : Calls Try.prog 6 #[.int .i64 m, .int .i64 c, .int .i64 g, v] w fun e w' => e = .returned (.bool true) ∧ Below w.heap.size w w' := by
  have WK := hid works_any
  have RN := hid (fun w' => rnewBudget_any m c g w')
  cases hB : bdB m c g with
  | false =>
    have NB := hid (fun w' => newBudget_no m c g w' hB)
    rw [hB] at RN
    simp only [bdV, bd0, Bool.false_eq_true, if_false] at RN
    clear hB
    go_enter Try.func6, Try.ntmps6
    go_wp2_with (first | (go_at_call 17; refine (WK.out _).mono ?_; rintro e w1 ⟨rfl, hb⟩; have B1 := hid hb; clear hb) | (go_at_call 31; refine (NB.out _).mono ?_; rintro e w2 ⟨rfl, hw⟩; rw [hw]; clear hw) | (go_at_call 32; refine (RN.out _).mono ?_; rintro e w3 ⟨rfl, hb⟩; have B3 := hid hb; clear hb))
    go_ret
    exact ⟨rfl, (bl3 B1.out B3.out).alloc (bl3 B1.out B3.out).size _⟩
  | true =>
    have NB := hid (fun w' => newBudget_ok m c g w' hB)
    rw [hB] at RN
    simp only [bdV, if_true] at RN
    have D0 := hid (bd_di hB)
    obtain ⟨p, cp, rfl⟩ := hl.form
    have AT := hid (fun w' (hb : Below w.heap.size w w') k (hk : k < l.length) => GS.atB (hl.below hb) hk)
    obtain ⟨n, hnl⟩ : ∃ n, n = l.length := ⟨_, rfl⟩
    rw [← hnl] at hn
    rw [← hnl]
    have NL : Hid (l.length = n) := hnl.symm
    clear hB hl hnl
    go_enter Try.func6, Try.ntmps6
    go_wp2_with (first | (go_at_call 17; refine (WK.out _).mono ?_; rintro e w1 ⟨rfl, hb⟩; have B1 := hid hb; clear hb) | (go_at_call 31; refine (NB.out _).mono ?_; rintro e w2 ⟨rfl, hx, hb⟩; have B2 := hid hb; have X2 := hid hx; clear hx hb) | (go_at_call 32; refine (RN.out _).mono ?_; rintro e w3 ⟨rfl, hb⟩; have B3 := hid hb; clear hb))
    generalize hW : w3.alloc _ = W
    have H0 : Hid (DC w1 w1.heap.size w3.heap.size ⟨m, c, g, m⟩ W) := by
      have hs := B2.out.size
      have hs3 := B3.out.size
      have hx2 := X2.out.lt
      show DC _ _ _ _ _
      rw [← hW]
      exact ⟨(X2.out.below B3.out).far (Below.heap_alloc _ _ _ (by omega)), D0.out, heap_alloc_new w3 _, by omega, (bl3 B2.out B3.out).alloc (bl3 B2.out B3.out).size _, Nat.le_refl _, by omega⟩
    clear hW B2 B3 X2 D0 NB RN WK
    go_loopw [45] (fun v45 wr => ∃ (k : Nat) (d : Bd) (wk : World), v45 = .int .i64 k ∧ wk = wr ∧ k ≤ n ∧ Hid (DC w1 w1.heap.size w3.heap.size d wk)) (fun v45 _ => n - (intOf v45).toNat)
    case atStart => exact ⟨0, _, _, rfl, rfl, Nat.zero_le _, H0⟩
    case round =>
      obtain ⟨k, d, wr, rfl, rfl, hk, HD⟩ := hrel
      by_cases hlt : k < n
      · have hk2 : k < l.length := by have := NL.out; omega
        obtain ⟨X, o, hp, hc⟩ := AT.out wr (bl3 B1.out HD.out.bel) k hk2
        subst hp
        have AK : Hid (∀ w', DC w1 w1.heap.size w3.heap.size d w' → Calls Try.prog 33 #[.pointer (some ⟨w1.heap.size, 0, none⟩)] w' fun e w'' => e = .returned (.bool (decide (d.mo < 2 * d.lv))) ∧ DC w1 w1.heap.size w3.heap.size d w'') := fun w' h => (dask_any w' _ d h.dx h.di).mono (fun e w'' ⟨h1, nn, h2⟩ => ⟨h1, by rw [h2]; exact h.below (drew_below _ _)⟩)
        have RK : Hid (∀ w', DC w1 w1.heap.size w3.heap.size d w' → Calls Try.prog 34 #[.agg #[.int .i64 d.mo, .int .i64 d.co, .int .i64 d.ga, .int .i64 d.lv]] w' fun e w'' => e = .returned (.bool (decide (d.mo < 2 * d.lv))) ∧ DC w1 w1.heap.size w3.heap.size d w'') := fun w' h => (rask_any w' d h.di).mono (fun e w'' ⟨h1, h2⟩ => ⟨h1, h.below h2⟩)
        have LV : Hid (∀ w', DC w1 w1.heap.size w3.heap.size d w' → Calls Try.prog 35 #[.pointer (some ⟨w1.heap.size, 0, none⟩)] w' fun e w'' => e = .returned (.int .i64 d.lv) ∧ DC w1 w1.heap.size w3.heap.size d w'') := fun w' h => (dlevel_any w' _ d h.dx).mono (fun e w'' ⟨h1, h2⟩ => ⟨h1, by rw [h2]; exact h⟩)
        have CC : Hid (∀ w', DC w1 w1.heap.size w3.heap.size d w' → w'.cell? ⟨w3.heap.size, 0, none⟩ = some (.int .i64 d.mo) ∧ w'.cell? ⟨w3.heap.size, 1, none⟩ = some (.int .i64 d.co) ∧ w'.cell? ⟨w3.heap.size, 2, none⟩ = some (.int .i64 d.ga) ∧ w'.cell? ⟨w3.heap.size, 3, none⟩ = some (.int .i64 d.lv)) := fun w' h => h.cells
        have HE : Hid (DC w1 w1.heap.size w3.heap.size d wr.drew) := HD.out.below (Below.refl _ _).drew
        obtain ⟨c0, c1, c2, c3⟩ := CC.out _ HD.out
        have BF : Hid (∀ w', DC w1 w1.heap.size w3.heap.size d w' → Below w.heap.size w w') := fun w' h => bl3 B1.out h.bel
        have TL : Hid (∀ w', DC w1 w1.heap.size w3.heap.size d w' → Calls Try.prog 36 #[.pointer (some ⟨w1.heap.size, 0, none⟩), .bool l[k]] w' fun e w'' => e = .returned (.tuple #[]) ∧ DX w'' w1.heap.size (tlD d l[k]) ∧ w''.heap[w3.heap.size]? = some (.cells (bdA d) 74) ∧ Below w1.heap.size w1 w'') := fun w' h => (dtell_but w' _ w1.heap.size d h.dx h.di h.ge l[k]).mono (fun e w'' ⟨h1, h2, h3, h4⟩ => ⟨h1, h.tell h2 h3 h4⟩)
        have RT : Hid (∀ w', Calls Try.prog 37 #[.agg #[.int .i64 d.mo, .int .i64 d.co, .int .i64 d.ga, .int .i64 d.lv], .bool l[k]] w' fun e w'' => e = .returned (.agg #[.int .i64 (tlD d l[k]).mo, .int .i64 (tlD d l[k]).co, .int .i64 (tlD d l[k]).ga, .int .i64 (tlD d l[k]).lv]) ∧ Below w'.heap.size w' w'') := fun w' => rtell_any w' d HD.out.di l[k]
        have FI : Hid (∀ w4 w5 : World, DX w4 w1.heap.size (tlD d l[k]) → w4.heap[w3.heap.size]? = some (.cells (bdA d) 74) → Below w1.heap.size w1 w4 → Below w4.heap.size w4 w5 → DC w1 w1.heap.size w3.heap.size (tlD d l[k]) ((((w5.setCell ⟨w3.heap.size, 0, none⟩ (.int .i64 (tlD d l[k]).mo)).setCell ⟨w3.heap.size, 1, none⟩ (.int .i64 (tlD d l[k]).co)).setCell ⟨w3.heap.size, 2, none⟩ (.int .i64 (tlD d l[k]).ga)).setCell ⟨w3.heap.size, 3, none⟩ (.int .i64 (tlD d l[k]).lv))) := fun w4 w5 h1 h2 h3 h4 => DC.again (h1.below h4) (tl_di HD.out.di _) ((h4.block _ (lt_of_heap h2)).trans h2) HD.out.ne (bl3 h3 h4) HD.out.ge HD.out.ge2
        have C4 : Hid (∀ w4 : World, w4.heap[w3.heap.size]? = some (.cells (bdA d) 74) → (w4.cell? ⟨w3.heap.size, 0, none⟩ = some (.int .i64 d.mo) ∧ w4.cell? ⟨w3.heap.size, 1, none⟩ = some (.int .i64 d.co) ∧ w4.cell? ⟨w3.heap.size, 2, none⟩ = some (.int .i64 d.ga) ∧ w4.cell? ⟨w3.heap.size, 3, none⟩ = some (.int .i64 d.lv)) ∧ ∀ o, w4.frozen? ⟨w3.heap.size, o, none⟩ = false) := fun w4 h => ⟨⟨cell_of_row _ _ _ _ _ _ h, cell_of_row _ _ _ _ _ _ h, cell_of_row _ _ _ _ _ _ h, cell_of_row _ _ _ _ _ _ h⟩, fun o => by simp [World.frozen?, h]⟩
        have EX : Hid (∀ w', DC w1 w1.heap.size w3.heap.size (tlD d l[k]) w' → ∃ d', DC w1 w1.heap.size w3.heap.size d' w') := fun w' h => ⟨_, h⟩
        generalize DC w1 w1.heap.size w3.heap.size d = DD at *
        generalize tlD d l[k] = td at *
        generalize bdA d = da at *
        generalize d.mo = d0 at *
        generalize d.co = d1 at *
        generalize d.ga = d2 at *
        generalize d.lv = d3 at *
        generalize hq0 : decide (d0 < 2 * d3) = q0 at *
        clear hq0
        generalize td.mo = t0 at *
        generalize td.co = t1 at *
        generalize td.ga = t2 at *
        generalize td.lv = t3 at *
        generalize l[k] = x at *
        clear AT NL BF EX
        go_wp2_with fail
        go_region_held3 (fun w' => w'.cell? ⟨w3.heap.size, 0, none⟩ = some (.int .i64 d0) ∧ w'.cell? ⟨w3.heap.size, 1, none⟩ = some (.int .i64 d1) ∧ w'.cell? ⟨w3.heap.size, 2, none⟩ = some (.int .i64 d2) ∧ w'.cell? ⟨w3.heap.size, 3, none⟩ = some (.int .i64 d3)) (go_keep) (first | (go_at_call 33; refine (AK.out _ (by first | exact HD.out | exact HE.out)).mono ?_; rintro e w4 ⟨rfl, hq⟩; have H4 := hid hq; obtain ⟨e0, e1, e2, e3⟩ := CC.out _ hq; clear hq) | (go_at_call 34; refine (RK.out _ (by first | exact H4.out | exact HD.out | exact HE.out)).mono ?_; rintro e w5 ⟨rfl, hq⟩; have H5 := hid hq; obtain ⟨f0, f1, f2, f3⟩ := CC.out _ hq; clear hq) | (go_at_call 35; refine (LV.out _ (by first | exact H5.out | exact H4.out)).mono ?_; rintro e w6 ⟨rfl, hq⟩; have H6 := hid hq; obtain ⟨g0, g1, g2, g3⟩ := CC.out _ hq; clear hq))
        all_goals
          clear HD HE AK RK LV CC
          go_wp2_with (first | (go_at_call 36; refine (TL.out _ H6.out).mono ?_; rintro e w7 ⟨rfl, q1, q2, q3⟩; obtain ⟨⟨y0, y1, y2, y3⟩, yf⟩ := C4.out _ q2; have Q1 := hid q1; have Q2 := hid q2; have Q3 := hid q3; clear q1 q2 q3) | (go_at_call 37; refine (RT.out _).mono ?_; rintro e w8 ⟨rfl, hb⟩; have F8 := hid (FI.out _ _ Q1.out Q2.out Q3.out hb); obtain ⟨⟨z0, z1, z2, z3⟩, zf⟩ := C4.out _ ((hb.block _ (lt_of_heap Q2.out)).trans Q2.out); clear hb))
          go_roundw
          case rel => exact ⟨k + 1, _, _, by go_num, rfl, by omega, F8⟩
          case measure => simp [intOf]; omega
      · obtain rfl : k = n := by omega
        have AK : Hid (∀ w', DC w1 w1.heap.size w3.heap.size d w' → Calls Try.prog 33 #[.pointer (some ⟨w1.heap.size, 0, none⟩)] w' fun e w'' => e = .returned (.bool (decide (d.mo < 2 * d.lv))) ∧ DC w1 w1.heap.size w3.heap.size d w'') := fun w' h => (dask_any w' _ d h.dx h.di).mono (fun e w'' ⟨h1, nn, h2⟩ => ⟨h1, by rw [h2]; exact h.below (drew_below _ _)⟩)
        have RK : Hid (∀ w', DC w1 w1.heap.size w3.heap.size d w' → Calls Try.prog 34 #[.agg #[.int .i64 d.mo, .int .i64 d.co, .int .i64 d.ga, .int .i64 d.lv]] w' fun e w'' => e = .returned (.bool (decide (d.mo < 2 * d.lv))) ∧ DC w1 w1.heap.size w3.heap.size d w'') := fun w' h => (rask_any w' d h.di).mono (fun e w'' ⟨h1, h2⟩ => ⟨h1, h.below h2⟩)
        have LV : Hid (∀ w', DC w1 w1.heap.size w3.heap.size d w' → Calls Try.prog 35 #[.pointer (some ⟨w1.heap.size, 0, none⟩)] w' fun e w'' => e = .returned (.int .i64 d.lv) ∧ DC w1 w1.heap.size w3.heap.size d w'') := fun w' h => (dlevel_any w' _ d h.dx).mono (fun e w'' ⟨h1, h2⟩ => ⟨h1, by rw [h2]; exact h⟩)
        have CC : Hid (∀ w', DC w1 w1.heap.size w3.heap.size d w' → w'.cell? ⟨w3.heap.size, 0, none⟩ = some (.int .i64 d.mo) ∧ w'.cell? ⟨w3.heap.size, 1, none⟩ = some (.int .i64 d.co) ∧ w'.cell? ⟨w3.heap.size, 2, none⟩ = some (.int .i64 d.ga) ∧ w'.cell? ⟨w3.heap.size, 3, none⟩ = some (.int .i64 d.lv)) := fun w' h => h.cells
        have HE : Hid (DC w1 w1.heap.size w3.heap.size d wr.drew) := HD.out.below (Below.refl _ _).drew
        obtain ⟨c0, c1, c2, c3⟩ := CC.out _ HD.out
        have BF : Hid (∀ w', DC w1 w1.heap.size w3.heap.size d w' → Below w.heap.size w w') := fun w' h => bl3 B1.out h.bel
        generalize DC w1 w1.heap.size w3.heap.size d = DD at *
        generalize d.mo = d0 at *
        generalize d.co = d1 at *
        generalize d.ga = d2 at *
        generalize d.lv = d3 at *
        generalize hq0 : decide (d0 < 2 * d3) = q0 at *
        clear hq0
        generalize w3.heap.size = BB at *
        generalize w1.heap.size = bb at *
        go_wp2_with fail
        go_region_held3 (fun w' => w'.cell? ⟨BB, 0, none⟩ = some (.int .i64 d0) ∧ w'.cell? ⟨BB, 1, none⟩ = some (.int .i64 d1) ∧ w'.cell? ⟨BB, 2, none⟩ = some (.int .i64 d2) ∧ w'.cell? ⟨BB, 3, none⟩ = some (.int .i64 d3)) (go_keep) (first | (go_at_call 33; refine (AK.out _ (by first | exact HD.out | exact HE.out)).mono ?_; rintro e w4 ⟨rfl, hq⟩; have H4 := hid hq; obtain ⟨e0, e1, e2, e3⟩ := CC.out _ hq; clear hq) | (go_at_call 34; refine (RK.out _ (by first | exact H4.out | exact HD.out | exact HE.out)).mono ?_; rintro e w5 ⟨rfl, hq⟩; have H5 := hid hq; obtain ⟨f0, f1, f2, f3⟩ := CC.out _ hq; clear hq) | (go_at_call 35; refine (LV.out _ (by first | exact H5.out | exact H4.out)).mono ?_; rintro e w6 ⟨rfl, hq⟩; have H6 := hid hq; obtain ⟨g0, g1, g2, g3⟩ := CC.out _ hq; clear hq))
        all_goals
          go_wp2_with fail
          go_ret
          exact ⟨rfl, BF.out _ H6.out⟩
end Go.Proofs.Ytgoffnagdpmpnaa
