/- Graph: the law GraphLongs. -/
import Derived.Test.YthhjknpfaghfbaaYk14
namespace Go.Proofs.Ythhjknpfaghfbaa
open Go.RowKit

theorem lgA_len (n : Int) (e : List (Int × Int)) (ws : List Int) : (lgA n e ws).length ≤ 4096 := by
  by_cases h : lgE n e ws = 0
  · have h1 : chkG n e = 0 := Classical.byContradiction fun q => by rw [lg_bad q] at h; exact q h
    obtain ⟨N, E, rfl, rfl, hg⟩ := chkG_ok h1
    unfold lgA
    rw [if_pos h, nI_len, eN_eI]
    have := loW_len (N := ((N : Int)).toNat) (E := E) (W := wtF ws)
    have h3 : ((N : Int)).toNat = N := by simp
    have := hg.n
    omega
  · rw [(lg_no h).2]; simp
set_option maxRecDepth 100000 in
set_option maxHeartbeats 32000000 in
theorem graphLongs_any (w : World) (n : Int) (v : Value) (l : List (Int × Int)) (hv : GS KE w v l) (hl : l.length * 16 ≤ 140737488355328) (u : Value) (ws : List Int) (hu : GS KI w u ws) (hwl : ws.length * 8 ≤ 140737488355328) : Calls Try.prog 3 #[.agg #[.int .i64 n, v], u] w fun e w' => e = .returned (.bool true) ∧ Below w.heap.size w w' := by
  obtain ⟨p, c, rfl⟩ := hv.form
  obtain ⟨pu, cu, rfl⟩ := hu.form
  generalize hW : w.alloc (.cells #[.int .i64 n, .slice p l.length c] 24) = W
  obtain ⟨bw, c0⟩ := graph_box w n p l.length c hW
  have BW := hid bw
  have H0 := hid c0
  obtain ⟨d0, d1⟩ := c0 W (Below.refl _ _)
  have CP := hid (copied_any W n _ l (hv.below bw) hl)
  have CI := hid (fun W' (hb : Below w.heap.size w W') => copyInts_any W' _ ws (hu.below hb) hwl)
  have GV := hid (fun W' (hb : Below w.heap.size w W') => hv.below hb)
  have GU := hid (fun W' (hb : Below w.heap.size w W') => hu.below hb)
  have L2 : Hid (ws.length ≤ 140737488355328) := by show _ ≤ _; omega
  obtain ⟨m, hm⟩ : ∃ m, m = l.length := ⟨_, rfl⟩
  rw [← hm] at H0 d1 CP GV hW ⊢
  have L1 : Hid (l.length ≤ 140737488355328) := by show _ ≤ _; omega
  have LA := lgA_len n l ws
  obtain ⟨k, hk⟩ : ∃ k, k = ws.length := ⟨_, rfl⟩
  rw [← hk] at CI GU ⊢
  clear hm hk hv hl bw c0 hu hwl
  go_enter Try.func3, Try.ntmps3
  go_upto_region 2 with (first
    | (go_at_call 9; refine CP.out.mono ?_; rintro e w1 ⟨p1, c1, rfl, o1, b1⟩; have O1 := hid o1; have B1 := hid b1; clear o1 b1)
    | (go_at_call 10; refine (CI.out _ (bl3 BW.out B1.out)).mono ?_; rintro e w2 ⟨p2, c2, rfl, o2, b2⟩; have O2 := hid o2; have B2 := hid b2; clear o2 b2))
  generalize hW3 : w2.alloc (.cells #[.int .i64 n, .slice p1 m c1] 24) = W3 at *
  have B23 : Below w2.heap.size w2 W3 := by rw [← hW3]; exact bal _ _
  have BB : Hid (Below w.heap.size w W3) := bl3 BW.out (bl3 B1.out (bl3 B2.out B23))
  have CB : Hid (∀ W', Below W3.heap.size W3 W' → GX w w.heap.size w2.heap.size n p p1 m c c1 l W3 W') := fun W' hb => by
    have e1 : W'.heap[w2.heap.size]? = some (.cells #[.int .i64 n, .slice p1 m c1] 24) := (hb.block _ (by rw [← hW3, asz]; omega)).trans (by rw [← hW3]; exact heap_alloc_new _ _)
    exact ⟨H0.out W' (bl3 B1.out (bl3 B2.out (bl3 B23 hb))), ⟨cell_of_row _ _ _ _ _ _ e1, cell_of_row _ _ _ _ _ _ e1⟩, GV.out W' (bl3 BB.out hb), (O1.out.gs KE_ok.len).below (bl3 B2.out (bl3 B23 hb))⟩
  have MI : Hid (∀ W', Below W3.heap.size W3 W' → GS KI W' (.slice p2 k c2) ws ∧ GS KI W' (.slice pu k cu) ws) := fun W' hb => ⟨(O2.out.gs KI_ok.len).below (bl3 B23 hb), GU.out W' (bl3 BB.out hb)⟩
  obtain ⟨sz, hsz⟩ : ∃ sz, sz = w.heap.size := ⟨_, rfl⟩
  obtain ⟨q7, hq7⟩ : ∃ q7, q7 = w2.heap.size := ⟨_, rfl⟩
  rw [← hsz, ← hq7] at CB
  rw [← hsz, ← hq7]
  clear hsz hq7 hW3 hW O1 B1 O2 B2 CP CI GV GU H0 d0 d1 BW B23
  have X0 := hid (CB.out W3 (Below.refl _ _))
  obtain ⟨x0, x1⟩ := X0.out.b0
  obtain ⟨x2, x3⟩ := X0.out.b1
  have N1 := hid (fun W' (hb : Below W3.heap.size W3 W') => Longest_any W' n _ l (CB.out W' hb).g1 _ ws (MI.out W' hb).1)
  have N2 := hid (fun W' (hb : Below W3.heap.size W3 W') => rLongest_any W' n _ l (CB.out W' hb).g0 _ ws (MI.out W' hb).2)
  have SO := hid (fun W' (hb : Below W3.heap.size W3 W') => same_same W' n _ _ l (CB.out W' hb).g1 (CB.out W' hb).g0 L1.out)
  have SI := hid (fun W' a b L h1 h2 h3 => sameI_yes W' a b L h1 h2 h3)
  have SM := hid (fun W' (hb : Below W3.heap.size W3 W') => sameI_yes W' _ _ ws (MI.out W' hb).1 (MI.out W' hb).2 L2.out)
  have CC := hid (fun W' (hb : Below W3.heap.size W3 W') => And.intro (CB.out W' hb).b0 (CB.out W' hb).b1)
  unfold AnsW at N1 N2
  generalize lgE n l ws = ra at *
  generalize lgS n l ws = S at *
  obtain ⟨A, hA⟩ : ∃ A, A = lgA n l ws := ⟨_, rfl⟩
  rw [← hA] at N1 N2 LA
  clear hA X0
  go_wp2_with (first
    | (go_at_call 11; refine (N1.out _ (Below.refl _ _)).mono ?_; rintro e w6 ⟨q6, c6, rfl, g6, b6⟩; have G6 := hid g6; have B6 := hid b6; obtain ⟨⟨y0, y1⟩, y2, y3⟩ := CC.out _ B6.out; clear g6 b6)
    | (go_at_call 12; refine (N2.out _ B6.out).mono ?_; rintro e w7 ⟨r7, c7, rfl, g7, b7⟩; have S7 := hid (SI.out w7 _ _ A (G6.out.below b7) g7 (by omega)); have B7 := hid (bl3 B6.out b7); clear g7 b7)
    | (go_at_call 13; refine (SM.out _ B9.out).mono ?_; rintro e w10 ⟨rfl, b10⟩; have B10 := hid (bl3 B9.out b10); clear b10)
    | (go_at_call 13; refine S7.out.mono ?_; rintro e w8 ⟨rfl, b8⟩; have B8 := hid (bl3 B7.out b8); obtain ⟨⟨z0, z1⟩, z2, z3⟩ := CC.out _ B8.out; clear b8)
    | (go_at_call 14; refine (SO.out _ B8.out).mono ?_; rintro e w9 ⟨rfl, b9⟩; have B9 := hid (bl3 B8.out b9); clear b9))
  go_ret
  exact ⟨rfl, bl3 BB.out B10.out⟩
end Go.Proofs.Ythhjknpfaghfbaa
