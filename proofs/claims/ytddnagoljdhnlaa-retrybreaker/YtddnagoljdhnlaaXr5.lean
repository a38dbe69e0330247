/- Retry, the document's breakers: Ask where a try is let by a closed breaker. -/
import Derived.Test.YtddnagoljdhnlaaXr4
namespace Go.Proofs.Ytddnagoljdhnlaa
open Go.RowKit

set_option maxHeartbeats 16000000 in
set_option maxRecDepth 100000 in
theorem rask_closed (w : World) (k : Bk) (C : Int) (hi : KI2 C k) (hC : C ≤ 1000000000000000000) (p : Option Addr) (ln cp : Nat) (hln : ln = k.ways.length) (hv : GS KW w (.slice p ln cp) k.ways) (a : Int) (ht : tdE k a = 0) (hw : k.ways.length ≠ 1024) (hs1 : k.st = 1) : Calls Try.prog 9 #[rbV k (.slice p ln cp), .int .i64 a] w fun e w' => ∃ g c9, e = .returned (.tuple #[rbV (lettry ({ k with lst := a })) (.slice (some ⟨g, 0, none⟩) (k.ways.length + 1) c9), .int .i64 (k.trs + 1), .bool true, .int .i64 0]) ∧ OwnG KW w' (w.heap.size + 2) (.slice (some ⟨g, 0, none⟩) (k.ways.length + 1) c9) (k.ways ++ [(k.trs + 1, k.trn)]) ∧ Below w.heap.size w w' := by
  have TD := hid (fun w' => rtimed_any w' k (.slice p ln cp) a)
  rw [ht] at TD
  have R0 := hid (R2.new w (rbA k (.slice p ln cp)))
  have hlen := hi.len
  have htr := hi.trs
  have htn := hi.trn
  have hn3 : ¬ (1024 : Int) ≤ (ln : Int) := by omega
  have b1 : (k.st == 1) = true := by simp [hs1]
  have b2 : (k.st == 2) = false := by simp [hs1]
  have HLN := hid hln
  have HVV := hid hv
  have HLE := hid hlen
  have htr1 : 0 ≤ k.trs ∧ k.trs ≤ 1000000000000000000 := by omega
  simp only [rbV, rbA, lettry] at *
  clear hln hv hlen hi hs1 ht hw htn htr hC
  obtain ⟨kl, kr, ks, ko, ku, kn, kt, km, kw⟩ := k
  simp only at *
  go_enter Try.func9, Try.ntmps9
  go_upto_region 13 with (go_at_call 20; refine (TD.out _).mono ?_; rintro e w1 ⟨rfl, hb⟩; have R1 := hid (R0.out.call hb); obtain ⟨g0, g1, g2, g3, g4, g5, g6, g7, g8⟩ := cells9 R1.out.p; obtain ⟨z0, z1, z2, z3, z4, z5, z6, z7, z8⟩ := cells9 R1.out.q; have fq := frz R1.out.p; have fr := frz R1.out.q; clear hb)
  rename_i QQ _ KR hK
  generalize hS : World.setCell (World.setCell _ _ _) ⟨_, 7, none⟩ _ = w6
  have R6 : Hid (R2 w #[.int .i64 kl, .int .i64 kr, .int .i64 ks, .int .i64 kn, .int .i64 ko, .int .i64 ku, .int .i64 a, .int .i64 (km + 1), .slice p ln cp] w6) := by rw [← hS]; exact (R1.out.set 6 _).set 7 _
  clear hS g0 g1 g2 g3 g4 g5 g6 g7 g8 z0 z1 z2 z3 z4 z5 z6 z7 z8 fq fr TD R0 R1
  generalize hmd : km + 1 = md at *
  have KK : Hid (∀ (t0 t1 t3 t5 t6 t7 t8 t9 t10 t11 t12 t13 t14 t15 t16 t17 t18 t19 t20 t21 t22 t23 t24 t25 t26 t27 t28 t29 t30 t31 t32 t33 t34 t35 t36 t37 t38 t39 t40 t41 t42 t43 t44 t45 t46 t47 t48 t49 t50 t51 t52 t53 t54 t55 t56 t57 t58 t59 t60 t61 t62 t63 t64 t65 t66 t67 : Value) (w9 : World) (g9 c9 : Nat), Below w6.heap.size w6 w9 → OwnG KW w9 w6.heap.size (.slice (some ⟨g9, 0, none⟩) (kw.length + 1) c9) (kw ++ [(md, kn)]) → Exit.then KR QQ .normal ⟨#[t0, t1, .pointer (some ⟨w.heap.size, 0, none⟩), t3, .pointer (some ⟨w.heap.size + 1, 0, none⟩), t5, t6, t7, t8, t9, t10, t11, t12, t13, t14, t15, t16, t17, t18, t19, t20, t21, t22, t23, t24, t25, t26, t27, t28, t29, t30, t31, t32, t33, t34, t35, t36, t37, t38, t39, t40, t41, t42, t43, t44, t45, t46, t47, t48, t49, t50, t51, t52, t53, t54, t55, t56, t57, t58, t59, t60, t61, t62, t63, t64, t65, t66, t67], []⟩ (w9.setCell ⟨w.heap.size, 8, none⟩ (.slice (some ⟨g9, 0, none⟩) (kw.length + 1) c9))) := by
    intro t0 t1 t3 t5 t6 t7 t8 t9 t10 t11 t12 t13 t14 t15 t16 t17 t18 t19 t20 t21 t22 t23 t24 t25 t26 t27 t28 t29 t30 t31 t32 t33 t34 t35 t36 t37 t38 t39 t40 t41 t42 t43 t44 t45 t46 t47 t48 t49 t50 t51 t52 t53 t54 t55 t56 t57 t58 t59 t60 t61 t62 t63 t64 t65 t66 t67 w9 g9 c9 B9 O9
    have RZ0 := (R6.out.call B9).set 8 (.slice (some ⟨g9, 0, none⟩) (kw.length + 1) c9)
    have OZ0 := (O9.low R6.out.lt).setB (b := w.heap.size) (o := 8) (u := .slice (some ⟨g9, 0, none⟩) (kw.length + 1) c9) (by omega)
    obtain ⟨wz, hwz⟩ : ∃ wz, wz = w9.setCell ⟨w.heap.size, 8, none⟩ (.slice (some ⟨g9, 0, none⟩) (kw.length + 1) c9) := ⟨_, rfl⟩
    rw [← hwz] at RZ0 OZ0 ⊢
    have RZ : R2 w #[.int .i64 kl, .int .i64 kr, .int .i64 ks, .int .i64 kn, .int .i64 ko, .int .i64 ku, .int .i64 a, .int .i64 md, .slice (some ⟨g9, 0, none⟩) (kw.length + 1) c9] wz := RZ0
    have OZ := OZ0
    clear hwz RZ0 OZ0
    subst hmd
    refine hK _ _ ?_
    have h9 := set9 RZ.q (.int .i64 kl) (.int .i64 kr) (.int .i64 ks) (.int .i64 kn) (.int .i64 ko) (.int .i64 ku) (.int .i64 a) (.int .i64 (km + 1)) (.slice (some ⟨g9, 0, none⟩) (kw.length + 1) c9)
    have hB9 := below9 RZ.bel (Nat.le_succ _) (.int .i64 kl) (.int .i64 kr) (.int .i64 ks) (.int .i64 kn) (.int .i64 ko) (.int .i64 ku) (.int .i64 a) (.int .i64 (km + 1)) (.slice (some ⟨g9, 0, none⟩) (kw.length + 1) c9)
    have hO9 := own9 OZ (show w.heap.size + 1 < w.heap.size + 2 by omega) (.int .i64 kl) (.int .i64 kr) (.int .i64 ks) (.int .i64 kn) (.int .i64 ko) (.int .i64 ku) (.int .i64 a) (.int .i64 (km + 1)) (.slice (some ⟨g9, 0, none⟩) (kw.length + 1) c9)
    obtain ⟨g0, g1, g2, g3, g4, g5, g6, g7, g8⟩ := cells9 RZ.p
    obtain ⟨z0, z1, z2, z3, z4, z5, z6, z7, z8⟩ := cells9 RZ.q
    have fq := frz RZ.p
    have fr := frz RZ.q
    clear R6 HLE HVV HLN
    go_wp2_with fail
    go_region
    go_wp2_with fail
    generalize hVV : World.setCell _ ⟨_, 8, none⟩ _ = VV at h9 hB9 hO9 ⊢
    clear hVV
    have hD : Below VV.heap.size VV VV.drew := drew_below _ 1
    have h9D : VV.drew.heap[w.heap.size + 1]? = _ := h9
    have hBD := hB9.drew
    have hOD := hO9.below hD
    obtain ⟨y0, y1, y2, y3, y4, y5, y6, y7, y8⟩ := cells9 h9D
    refine bodyPost_ret (v := .tuple #[.agg #[.int .i64 kl, .int .i64 kr, .int .i64 ks, .int .i64 kn, .int .i64 ko, .int .i64 ku, .int .i64 a, .int .i64 (km + 1), .slice (some ⟨g9, 0, none⟩) (kw.length + 1) c9], .int .i64 (km + 1), .bool true, .int .i64 0]) (by simp [results, Try.results9, go_sem, y0, y1, y2, y3, y4, y5, y6, y7, y8]) rfl ?_
    exact ⟨g9, c9, rfl, hOD, hBD⟩
  have A0 : Hid (AP KW w6 (.cells #[] 63) (.cells #[.int .i64 md, .int .i64 kn] 63) (.slice p ln cp) kw) := ap_of KW w6 _ (.slice p ln cp) kw (HVV.out.below R6.out.bel)
  have AP0 := A0
  clear A0
  have RC : Hid (∀ Wx, Below w6.heap.size w6 Wx → Wx.cell? ⟨w.heap.size, 3, none⟩ = some (.int .i64 kn) ∧ Wx.cell? ⟨w.heap.size, 7, none⟩ = some (.int .i64 md) ∧ Wx.cell? ⟨w.heap.size, 8, none⟩ = some (.slice p ln cp) ∧ ∀ q, Wx.frozen? ⟨w.heap.size, q, none⟩ = false) := fun Wx hb => by
    obtain ⟨h0, h1, h2, h3, h4, h5, h6, h7, h8⟩ := cells9 (R6.out.call hb).p
    exact ⟨h3, h7, h8, frz (R6.out.call hb).p⟩
  have L1 : Hid ((([] : List (Int × Int)).length + kw.length) * KW.B ≤ 140737488355328) := by
    have h1 := HLE.out
    show (0 + kw.length) * 16 ≤ _
    omega
  have L2 : Hid ((kw.length + 1) * KW.B ≤ 140737488355328) := by
    have h1 := HLE.out
    show (kw.length + 1) * 16 ≤ _
    omega
  have N1 : Hid (some (w6.heap.size + 1) ≠ (Value.slice (some ⟨w6.heap.size, 0, none⟩) 0 0).ownBlock) := by intro q; injection q with q; have q : w6.heap.size + 1 = w6.heap.size := q; omega
  have N2 : Hid (some w6.heap.size ≠ (Value.slice (some ⟨w6.heap.size + 1, 0, none⟩) 0 0).ownBlock) := by intro q; injection q with q; have q : w6.heap.size = w6.heap.size + 1 := q; omega
  obtain ⟨c3, c7, c8, cf⟩ := RC.out _ (Below.refl _ _)
  have D1 : Hid (∀ ob, Below w6.heap.size w6 (w6.alloc ob).drew) := fun ob => bl3 (bal w6 ob) (drew_below _ 1)
  have D2 : Hid (∀ ob o2, Below w6.heap.size w6 ((w6.alloc ob).alloc o2).drew) := fun ob o2 => bl3 (bal w6 ob) (bl3 (bal _ o2) (drew_below _ 1))
  have d3 := fun ob => (RC.out _ (D1.out ob)).1
  have d7 := fun ob => (RC.out _ (D1.out ob)).2.1
  have d8 := fun ob => (RC.out _ (D1.out ob)).2.2.1
  have e3 := fun ob o2 => (RC.out _ (D2.out ob o2)).1
  have e7 := fun ob o2 => (RC.out _ (D2.out ob o2)).2.1
  have e8 := fun ob o2 => (RC.out _ (D2.out ob o2)).2.2.1
  go_region_law (first
      | (refine step_append_g KW KW_ok (by rfl) (.tmp 56) (.tmp 62) 28 (by rfl) w6.heap.size Try.underlying28 w8 _ _ _ HC.out (.slice p8 kw.length c8) kw (md, kn) _ (by rfl) O8.out (by rfl) (by rfl) L2.out B8.out.size ?_; intro g9 c9 w9 o9 b9 _ _; have O9 := hid o9; have B9 : Hid (Below w6.heap.size w6 w9) := B8.out.trans b9; obtain ⟨u3, u7, u8, uf⟩ := RC.out _ B9.out; clear o9 b9)
      | (refine step_append_g KW KW_ok (by rfl) (.tmp 56) (.tmp 62) 28 (by rfl) w6.heap.size Try.underlying28 _ _ _ _ (heap_alloc_new w8 _) (.slice p8 kw.length c8) kw (md, kn) _ (by rfl) (O8.out.below (bal w8 _)) (by rfl) (by rfl) L2.out (Nat.le_trans B8.out.size (bal w8 _).size) ?_; intro g9 c9 w9 o9 b9 _ _; have O9 := hid o9; have B9 : Hid (Below w6.heap.size w6 w9) := (bl3 B8.out (bal w8 _)).trans b9; obtain ⟨u3, u7, u8, uf⟩ := RC.out _ B9.out; clear o9 b9)
      | (refine step_append_any KW KW_ok (by rfl) (.tmp 53) (.tmp 55) 28 (by rfl) w6.heap.size Try.underlying28 _ (.slice (some ⟨w6.heap.size, 0, none⟩) 0 0) (.slice p ln cp) [] kw (by rfl) AP0.out.a1.1 (by rfl) AP0.out.a1.2.1 L1.out AP0.out.a1.2.2.2 ?_; intro v8 w8 o8 b8 q8; rw [List.nil_append] at o8; obtain ⟨p8, c8, hv8, _⟩ := o8.form; subst hv8; have O8 := hid o8; have B8 : Hid (Below w6.heap.size w6 w8) := AP0.out.a1.2.2.1.trans b8; obtain ⟨y3, y7, y8, yf⟩ := RC.out _ B8.out; skip; clear o8 b8 q8)
      | (refine step_append_any KW KW_ok (by rfl) (.tmp 53) (.tmp 55) 28 (by rfl) w6.heap.size Try.underlying28 _ (.slice (some ⟨w6.heap.size, 0, none⟩) 0 0) (.slice p ln cp) [] kw (by rfl) AP0.out.a2.1 (by rfl) AP0.out.a2.2.1 L1.out AP0.out.a2.2.2.2.1 ?_; intro v8 w8 o8 b8 q8; rw [List.nil_append] at o8; obtain ⟨p8, c8, hv8, _⟩ := o8.form; subst hv8; have O8 := hid o8; have B8 : Hid (Below w6.heap.size w6 w8) := AP0.out.a2.2.2.1.trans b8; obtain ⟨y3, y7, y8, yf⟩ := RC.out _ B8.out; have HC := hid ((q8 _ (lt_of_heap AP0.out.a2.2.2.2.2) N1.out).trans AP0.out.a2.2.2.2.2); clear o8 b8 q8)
      | (refine step_append_any KW KW_ok (by rfl) (.tmp 53) (.tmp 55) 28 (by rfl) w6.heap.size Try.underlying28 _ (.slice (some ⟨w6.heap.size + 1, 0, none⟩) 0 0) (.slice p ln cp) [] kw (by rfl) AP0.out.a3.1 (by rfl) AP0.out.a3.2.1 L1.out AP0.out.a3.2.2.2.1 ?_; intro v8 w8 o8 b8 q8; rw [List.nil_append] at o8; obtain ⟨p8, c8, hv8, _⟩ := o8.form; subst hv8; have O8 := hid o8; have B8 : Hid (Below w6.heap.size w6 w8) := AP0.out.a3.2.2.1.trans b8; obtain ⟨y3, y7, y8, yf⟩ := RC.out _ B8.out; have HC := hid ((q8 _ (lt_of_heap AP0.out.a3.2.2.2.2) N2.out).trans AP0.out.a3.2.2.2.2); clear o8 b8 q8))
  all_goals exact KK.out _ _ _ _ _ _ _ _ _ _ _ _ _ _ _ _ _ _ _ _ _ _ _ _ _ _ _ _ _ _ _ _ _ _ _ _ _ _ _ _ _ _ _ _ _ _ _ _ _ _ _ _ _ _ _ _ _ _ _ _ _ _ _ _ _ _ _ _ _ B9.out O9.out
end Go.Proofs.Ytddnagoljdhnlaa
