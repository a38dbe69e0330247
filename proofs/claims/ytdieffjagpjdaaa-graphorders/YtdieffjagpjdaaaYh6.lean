/- Graph: the law GraphOrders. -/
import Derived.Test.YtdieffjagpjdaaaYh5
import Derived.Test.YtdieffjagpjdaaaYd4
namespace Go.Proofs.Ytdieffjagpjdaaa
open Go.RowKit

theorem orA_len (n : Int) (e : List (Int × Int)) : (orA n e).length ≤ 4096 := by
  by_cases h : orE n e = 0
  · have h1 : chkG n e = 0 := Classical.byContradiction fun q => by rw [(orE_bad q).1] at h; exact q h
    obtain ⟨N, E, rfl, rfl, hg⟩ := chkG_ok h1
    have hr : rnL N E = [] := Classical.byContradiction fun q => by rw [(orE_not hg q).1] at h; cases h
    rw [(orE_yes hg hr).2, nI_len]
    exact Nat.le_trans (orL_ko hg hr).1.len hg.n
  · unfold orA; rw [if_neg h]; simp
theorem leA_len (n : Int) (e : List (Int × Int)) : (leA n e).length ≤ 4096 := by
  by_cases h : orE n e = 0
  · have h1 : chkG n e = 0 := Classical.byContradiction fun q => by rw [(orE_bad q).1] at h; exact q h
    obtain ⟨N, E, rfl, rfl, hg⟩ := chkG_ok h1
    have hr : rnL N E = [] := Classical.byContradiction fun q => by rw [(orE_not hg q).1] at h; cases h
    rw [leA_yes hg hr]
    unfold leL
    rw [List.length_map, List.length_range]
    exact hg.n
  · rw [leA_no h]; simp
theorem sameI_yes (W' : World) (a b : Value) (L : List Int) (h1 : GS KI W' a L) (h2 : GS KI W' b L) (h3 : L.length ≤ 140737488355328) : Calls Try.prog 15 #[a, b] W' fun e w' => e = .returned (.bool true) ∧ Below W'.heap.size W' w' := by
  have := sameInts_any W' a b L L h1 h2 h3
  rw [decide_eq_true rfl] at this
  exact this
/-- A copied graph in its box beside the argument in its own. -/
structure GX (w : World) (sz q7 : Nat) (n : Int) (p p1 : Option Addr) (m c c1 : Nat) (l : List (Int × Int)) (W3 W' : World) : Prop where
  b0 : W'.cell? ⟨sz, 0, none⟩ = some (.int .i64 n) ∧ W'.cell? ⟨sz, 1, none⟩ = some (.slice p m c)
  b1 : W'.cell? ⟨q7, 0, none⟩ = some (.int .i64 n) ∧ W'.cell? ⟨q7, 1, none⟩ = some (.slice p1 m c1)
  g0 : GS KE W' (.slice p m c) l
  g1 : GS KE W' (.slice p1 m c1) l
set_option maxRecDepth 100000 in
set_option maxHeartbeats 32000000 in
theorem graphOrders_any (w : World) (n : Int) (v : Value) (l : List (Int × Int)) (hv : GS KE w v l) (hl : l.length * 16 ≤ 140737488355328) : Calls Try.prog 5 #[.agg #[.int .i64 n, v]] w fun e w' => e = .returned (.bool true) ∧ Below w.heap.size w w' := by
  obtain ⟨p, c, rfl⟩ := hv.form
  generalize hW : w.alloc (.cells #[.int .i64 n, .slice p l.length c] 24) = W
  obtain ⟨bw, c0⟩ := graph_box w n p l.length c hW
  have BW := hid bw
  have H0 := hid c0
  obtain ⟨d0, d1⟩ := c0 W (Below.refl _ _)
  have CP := hid (copied_any W n _ l (hv.below bw) hl)
  have GV := hid (fun W' (hb : Below w.heap.size w W') => hv.below hb)
  obtain ⟨m, hm⟩ : ∃ m, m = l.length := ⟨_, rfl⟩
  rw [← hm] at H0 d1 CP GV hW ⊢
  have L1 : Hid (l.length ≤ 140737488355328) := by show _ ≤ _; omega
  have LA := orA_len n l
  have LB := leA_len n l
  clear hm hv hl bw c0
  go_enter Try.func5, Try.ntmps5
  go_upto_region 2 with (go_at_call 9; refine CP.out.mono ?_; rintro e w1 ⟨p1, c1, rfl, o1, b1⟩; have O1 := hid o1; have B1 := hid b1; clear o1 b1)
  generalize hW3 : w1.alloc (.cells #[.int .i64 n, .slice p1 m c1] 24) = W3 at *
  have BB : Hid (Below w.heap.size w W3) := by rw [← hW3]; exact bl3 BW.out (bl3 B1.out (bal _ _))
  have CB : Hid (∀ W', Below W3.heap.size W3 W' → GX w w.heap.size w1.heap.size n p p1 m c c1 l W3 W') := fun W' hb => by
    have e1 : W'.heap[w1.heap.size]? = some (.cells #[.int .i64 n, .slice p1 m c1] 24) := (hb.block _ (by rw [← hW3, asz]; omega)).trans (by rw [← hW3]; exact heap_alloc_new _ _)
    exact ⟨H0.out W' (by rw [← hW3] at hb; exact bl3 (bl3 B1.out (bal _ _)) hb), ⟨cell_of_row _ _ _ _ _ _ e1, cell_of_row _ _ _ _ _ _ e1⟩, GV.out W' (bl3 BB.out hb), ((O1.out.gs KE_ok.len).below (bal _ _)).below (by rw [hW3]; exact hb)⟩
  obtain ⟨sz, hsz⟩ : ∃ sz, sz = w.heap.size := ⟨_, rfl⟩
  obtain ⟨q7, hq7⟩ : ∃ q7, q7 = w1.heap.size := ⟨_, rfl⟩
  rw [← hsz, ← hq7] at CB
  rw [← hsz, ← hq7]
  clear hsz hq7 hW3 hW O1 B1 CP GV H0 d0 d1 BW
  have X0 := hid (CB.out W3 (Below.refl _ _))
  obtain ⟨x0, x1⟩ := X0.out.b0
  obtain ⟨x2, x3⟩ := X0.out.b1
  have N1 := hid (fun W' (hb : Below W3.heap.size W3 W') => Order_any W' n _ l (CB.out W' hb).g1)
  have N2 := hid (fun W' (hb : Below W3.heap.size W3 W') => rOrder_any W' n _ l (CB.out W' hb).g0)
  have R1 := hid (fun W' (hb : Below W3.heap.size W3 W') => Levels_any W' n _ l (CB.out W' hb).g1)
  have R2 := hid (fun W' (hb : Below W3.heap.size W3 W') => rLevels_any W' n _ l (CB.out W' hb).g0)
  have SO := hid (fun W' (hb : Below W3.heap.size W3 W') => same_same W' n _ _ l (CB.out W' hb).g1 (CB.out W' hb).g0 L1.out)
  have SI := hid (fun W' a b L h1 h2 h3 => sameI_yes W' a b L h1 h2 h3)
  have CC := hid (fun W' (hb : Below W3.heap.size W3 W') => And.intro (CB.out W' hb).b0 (CB.out W' hb).b1)
  obtain ⟨A, hA⟩ : ∃ A, A = orA n l := ⟨_, rfl⟩
  obtain ⟨B, hB⟩ : ∃ B, B = leA n l := ⟨_, rfl⟩
  rw [← hA] at N1 N2 LA
  rw [← hB] at R1 R2 LB
  clear hA hB X0
  generalize orE n l = ra at *
  go_upto_region 6 with (first
    | (go_at_call 28; refine (N1.out _ (Below.refl _ _)).mono ?_; rintro e w6 ⟨q6, c6, rfl, g6, b6⟩; have G6 := hid g6; have B6 := hid b6; obtain ⟨⟨y0, y1⟩, y2, y3⟩ := CC.out _ B6.out; clear g6 b6)
    | (go_at_call 29; refine (N2.out _ B6.out).mono ?_; rintro e w7 ⟨r7, c7, rfl, g7, b7⟩; have S7 := hid (SI.out w7 _ _ A (G6.out.below b7) g7 (by omega)); have B7 := hid (bl3 B6.out b7); clear g7 b7)
    | (go_at_call 15; refine S7.out.mono ?_; rintro e w8 ⟨rfl, b8⟩; have B8 := hid (bl3 B7.out b8); obtain ⟨⟨z0, z1⟩, z2, z3⟩ := CC.out _ B8.out; clear b8))
  clear x0 x1 x2 x3 y0 y1 y2 y3 G6 S7 N1 N2
  go_wp2_with (first
    | (go_at_call 30; refine (R1.out _ B8.out).mono ?_; rintro e w9 ⟨q9, c9, rfl, g9, b9⟩; have G9 := hid g9; have B9 := hid (bl3 B8.out b9); obtain ⟨⟨y0, y1⟩, y2, y3⟩ := CC.out _ B9.out; clear g9 b9)
    | (go_at_call 31; refine (R2.out _ B9.out).mono ?_; rintro e w10 ⟨r10, c10, rfl, g10, b10⟩; have S10 := hid (SI.out w10 _ _ B (G9.out.below b10) g10 (by omega)); have B10 := hid (bl3 B9.out b10); clear g10 b10)
    | (go_at_call 15; refine S10.out.mono ?_; rintro e w11 ⟨rfl, b11⟩; have B11 := hid (bl3 B10.out b11); obtain ⟨⟨x0, x1⟩, x2, x3⟩ := CC.out _ B11.out; clear b11)
    | (go_at_call 20; refine (SO.out _ B11.out).mono ?_; rintro e w12 ⟨rfl, b12⟩; have B12 := hid (bl3 B11.out b12); clear b12))
  go_ret
  exact ⟨rfl, bl3 BB.out B12.out⟩
end Go.Proofs.Ytdieffjagpjdaaa
