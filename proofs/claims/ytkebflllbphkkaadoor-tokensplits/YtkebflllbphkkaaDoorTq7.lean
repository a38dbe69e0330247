/- Tokens: cancel. -/
import Derived.Test.YtkebflllbphkkaaDoorTq6
namespace Go.Proofs.YtkebflllbphkkaaDoor
open Go.RowKit

theorem nodup_len : ∀ (n : Nat) (l : List Nat), l.Nodup → (∀ x ∈ l, x < n) → l.length ≤ n
  | 0, l, _, h => by
    cases l with
    | nil => simp
    | cons x r => have := h x (List.mem_cons_self ..); omega
  | n + 1, l, hd, h => by
    by_cases hm : n ∈ l
    · have h1 := nodup_len n (l.erase n) (hd.erase n) (fun x hx => by
        have h2 := (hd.mem_erase_iff).1 hx
        have := h x h2.2
        have := h2.1
        omega)
      rw [List.length_erase_of_mem hm] at h1
      omega
    · have h1 := nodup_len n l hd (fun x hx => by
        have := h x hx
        have : x ≠ n := fun e => hm (e ▸ hx)
        omega)
      omega
/-- The order has each place once. -/
structure J (T : Tr) : Prop where
  nd : T.od.Nodup
  lt : ∀ x ∈ T.od, x < T.ns.length
  len : T.ns.length ≤ 256
theorem Inv.j {T : Tr} (h : Inv T) : J T := ⟨h.nd, h.lt, h.len⟩
theorem J.room {T : Tr} (h : J T) {a : Nat} (ha : a < T.ns.length) (hn : a ∉ T.od) : T.od.length < 256 := by
  have := nodup_len T.ns.length (a :: T.od) (List.nodup_cons.2 ⟨hn, h.nd⟩) (fun x hx => by
    rcases List.mem_cons.1 hx with rfl | hx
    · exact ha
    · exact h.lt x hx)
  have := h.len
  simp at *
  omega
theorem J.end {T : Tr} (h : J T) {a : Nat} (ha : a < T.ns.length) (hn : a ∉ T.od) (q : Nat) : J (endT T a q) := by
  refine ⟨?_, fun x hx => ?_, by rw [endT_len]; exact h.len⟩
  · show (T.od ++ [a]).Nodup
    refine List.nodup_append.2 ⟨h.nd, by simp, fun x hx y hy e => ?_⟩
    simp at hy
    subst hy e
    exact hn hx
  · rw [endT_len]
    have hx' : x ∈ T.od ++ [a] := hx
    rcases List.mem_append.1 hx' with q | q
    · exact h.lt x q
    · simp at q; subst q; exact ha
theorem J.why {T : Tr} (h : J T) (p : Nat) (y : List Cr) : J (whyT T p y) := ⟨h.nd, fun x hx => by rw [whyT_len]; exact h.lt x hx, by rw [whyT_len]; exact h.len⟩
def stepT (T : Tr) (p a : Nat) : Tr := if T.up a p = true ∧ a ∉ T.od then endT T a p else T
theorem benT_snoc (p : Nat) : ∀ (l : List Nat) (T : Tr) (a : Nat), benT T p (l ++ [a]) = stepT (benT T p l) p a
  | [], T, a => rfl
  | x :: r, T, a => by
    rw [List.cons_append, benT, benT, benT_snoc p r]
theorem J.step {T : Tr} (h : J T) {a : Nat} (ha : a < T.ns.length) (p : Nat) : J (stepT T p a) ∧ (stepT T p a).ns.length = T.ns.length := by
  unfold stepT
  split
  · rename_i q; exact ⟨h.end ha q.2 p, endT_len _ _ _⟩
  · exact ⟨h, rfl⟩
theorem TX.drewN {w : World} {b cb mb : Nat} {nv ov : Value} {L : List NM} {T : Tr} (h : TX w b cb mb nv ov L T) (n : Nat) : TX (w.drewN n) b cb mb nv ov L T := h.below ⟨rfl, rfl, rfl, Nat.le_refl _, fun _ _ => rfl⟩
theorem TX.drew {w : World} {b cb mb : Nat} {nv ov : Value} {L : List NM} {T : Tr} (h : TX w b cb mb nv ov L T) : TX w.drew b cb mb nv ov L T := h.below ⟨rfl, rfl, rfl, Nat.le_refl _, fun _ _ => rfl⟩
theorem Ts.refl {w : World} {b cb mb : Nat} {nv ov : Value} {L : List NM} {T : Tr} (h : TX w b cb mb nv ov L T) : Ts w b cb mb nv ov w T := ⟨nv, ov, L, h, But.refl _ _, Fr.refl _ _⟩
theorem But.comp {F G : Nat → Prop} {a b c : World} (h : But F a b) (k : But G b c) (f : Fr a F G) : But F a c := h.trans k f
theorem Ts.trans {w w1 w2 : World} {b cb mb : Nat} {nv ov nv1 ov1 : Value} {U : Tr} (k1 : But (fp b cb mb nv ov) w w1) (f1 : Fr w (fp b cb mb nv ov) (fp b cb mb nv1 ov1)) (h2 : Ts w1 b cb mb nv1 ov1 w2 U) : Ts w b cb mb nv ov w2 U := by
  obtain ⟨nv2, ov2, L2, t2, k2, f2⟩ := h2
  exact ⟨nv2, ov2, L2, t2, k1.comp k2 f1, f1.trans f2 k1.size⟩
set_option maxHeartbeats 4000000 in
theorem can1_any (w : World) (b cb mb : Nat) (nv ov : Value) (L : List NM) (T : Tr) (h : TX w b cb mb nv ov L T) (B1 B2 a p : Nat) (h1 : w.cell? ⟨B1, 0, none⟩ = some (.pointer (some ⟨b, 0, none⟩))) (h2 : w.cell? ⟨B2, 0, none⟩ = some (.int .i64 p)) (ha : a < T.ns.length) (hj : J T) :
    Calls Tryd.prog 51 #[.int .i64 a, .pointer (some ⟨B1, 0, none⟩), .pointer (some ⟨B2, 0, none⟩)] w fun e w' => e = .returned (.tuple #[]) ∧ Ts w b cb mb nv ov w' (if a ∉ T.od then endT T a p else T) := by
  have DN := isDone_any w b cb mb nv ov L T h a ha
  by_cases hd : a ∈ T.od
  · have TS0 := hid (Ts.refl h)
    rw [if_neg (fun q => q hd)]
    rw [decide_eq_true hd] at DN
    have DN2 := hid DN
    clear DN h hd
    go_enter Tryd.func51, Tryd.ntmps51
    go_wp2_with (go_at_call 26; refine DN2.out.mono ?_; rintro e w2 ⟨rfl, hw2⟩; subst w2)
    go_end0
    exact ⟨rfl, TS0.out⟩
  · have EN := hid (end_any w b cb mb nv ov L T h a p ha hd (hj.room ha hd))
    rw [if_pos hd]
    rw [decide_eq_false hd] at DN
    have DN2 := hid DN
    clear DN h hd
    go_enter Tryd.func51, Tryd.ntmps51
    go_wp2_with (first | (go_at_call 26; refine DN2.out.mono ?_; rintro e w2 ⟨rfl, hw2⟩; subst w2) | (go_at_call 31; refine EN.out.mono ?_; rintro e w2 ⟨rfl, hq⟩; have HQ := hid hq; clear hq))
    go_end0
    exact ⟨rfl, HQ.out⟩
set_option maxHeartbeats 8000000 in
set_option maxRecDepth 100000 in
theorem beneath_any (w : World) (b cb mb : Nat) (nv ov : Value) (L : List NM) (T : Tr) (h : TX w b cb mb nv ov L T) (B1 B2 p : Nat) (h1 : w.cell? ⟨B1, 0, none⟩ = some (.pointer (some ⟨b, 0, none⟩))) (h2 : w.cell? ⟨B2, 0, none⟩ = some (.int .i64 p)) (hp : p < T.ns.length) (hj : J T)
    (l1 : B1 < w.heap.size) (l2 : B2 < w.heap.size) (f1 : ¬ fp b cb mb nv ov B1) (f2 : ¬ fp b cb mb nv ov B2) :
    Calls Tryd.prog 50 #[.pointer (some ⟨b, 0, none⟩), .int .i64 p, .func (.func 51) #[] #[.pointer (some ⟨B1, 0, none⟩), .pointer (some ⟨B2, 0, none⟩)]] w fun e w' => e = .returned (.tuple #[]) ∧ Ts w b cb mb nv ov w' (benT T p (List.range' (p + 1) (T.ns.length - (p + 1)))) := by
  have hnl := h.nl
  have S0 : Hid (benT T p (List.range' (p + 1) 0) = T ∧ J T ∧ Ts w b cb mb nv ov w T) := ⟨rfl, hj, Ts.refl h⟩
  have BX : Hid (∀ wk, But (fp b cb mb nv ov) w wk → wk.cell? ⟨B1, 0, none⟩ = some (.pointer (some ⟨b, 0, none⟩)) ∧ wk.cell? ⟨B2, 0, none⟩ = some (.int .i64 p)) := fun wk k => ⟨(World.cell?_of_block (w := w) (a := ⟨B1, 0, none⟩) (k.block B1 l1 f1)).trans h1, (World.cell?_of_block (w := w) (a := ⟨B2, 0, none⟩) (k.block B2 l2 f2)).trans h2⟩
  obtain ⟨N, hN⟩ : ∃ N, N = T.ns.length := ⟨_, rfl⟩
  rw [← hN] at hp hnl ⊢
  have HN := hid hN
  clear h hj h1 h2 l1 l2 f1 f2 hN
  go_enter Tryd.func50, Tryd.ntmps50
  go_wp2
  go_loopw [6] (fun i wr => ∃ (k : Nat) (U : Tr) (wk : World), p + 1 ≤ k ∧ k ≤ N ∧ i = .int .i64 k ∧ wk = wr ∧ Hid (benT T p (List.range' (p + 1) (k - (p + 1))) = U ∧ J U ∧ U.ns.length = N ∧ Ts w b cb mb nv ov wk U)) (fun i _ => N - (intOf i).toNat)
  case atStart => exact ⟨p + 1, T, w, Nat.le_refl _, by omega, by go_num, rfl, by rw [Nat.sub_self]; exact hid ⟨S0.out.1, S0.out.2.1, HN.out.symm, S0.out.2.2⟩⟩
  case round =>
    obtain ⟨k, U, wr, hk0, hk, rfl, rfl, HR⟩ := hrel
    clear S0
    have hR := HR.out
    obtain ⟨r1, r2, r3, nv1, ov1, L1, t1, k1, g1⟩ := hR
    have SN : Hid (benT T p (List.range' (p + 1) (k + 1 - (p + 1))) = stepT U p k) := by
      show _ = _
      rw [show k + 1 - (p + 1) = (k - (p + 1)) + 1 by omega, List.range'_concat, benT_snoc, r1]
      congr 1
      omega
    obtain ⟨c0, c1, c2, c3⟩ := t1.cells
    obtain ⟨pn, cn, hnv, hcn⟩ := t1.nr.form
    rw [t1.ll, r3] at hnv hcn
    by_cases hlt : k < N
    · have hkU : k < U.ns.length := by rw [r3]; exact hlt
      obtain ⟨X, cap, hnv2, hcap, hX, fz, n0, n1, n5, n6, n7, wp, wc, n8, ow⟩ := t1.nd hkU
      rw [r3] at hnv2
      rw [hnv2] at c1
      have J1 := (r2.step hkU p).1
      have J2 := (r2.step hkU p).2
      have HA := hid (has_any X (k * 9 + 1) p (U.n k).ab wr n1 (by omega) (fun j => t1.wd k j hkU))
      cases hu : hasW (U.n k).ab p with
      | false =>
        rw [hu] at HA
        have FIN : Hid (∀ n, benT T p (List.range' (p + 1) (k + 1 - (p + 1))) = stepT U p k ∧ J (stepT U p k) ∧ (stepT U p k).ns.length = N ∧ Ts w b cb mb nv ov (wr.drewN n) (stepT U p k)) := fun n => by
          have e : stepT U p k = U := by
            unfold stepT
            rw [if_neg]
            rintro ⟨q, _⟩
            unfold Tr.up at q
            rw [hu] at q; cases q
          exact ⟨SN.out, J1, by rw [J2, r3], by rw [e]; exact ⟨nv1, ov1, L1, t1.drewN n, k1.drewN n, g1⟩⟩
        clear t1 k1 g1 n0 n1 n5 n6 n7 n8 ow fz HR SN J1 J2 hu r1 r2 hnv hnv2 c0 c2 c3 hcn hkU
        go_wp2_with (go_at_call 58; refine HA.out.mono ?_; rintro e w2 ⟨rfl, nq, hw2⟩; subst w2)
        go_roundw
        case rel => exact ⟨k + 1, stepT U p k, _, by omega, by omega, by go_num, rfl, FIN.out nq⟩
        case measure => simp [intOf]; omega
      | true =>
        rw [hu] at HA
        have CC : Hid (∀ n, Calls Tryd.prog 51 #[.int .i64 k, .pointer (some ⟨B1, 0, none⟩), .pointer (some ⟨B2, 0, none⟩)] (wr.drewN n) fun e w' => e = .returned (.tuple #[]) ∧ Ts w b cb mb nv ov w' (stepT U p k)) := fun n => by
          obtain ⟨x1, x2⟩ := BX.out (wr.drewN n) (k1.drewN n)
          have q := can1_any (wr.drewN n) b cb mb nv1 ov1 L1 U (t1.drewN n) B1 B2 k p x1 x2 hkU r2
          have e : (if k ∉ U.od then endT U k p else U) = stepT U p k := by
            unfold stepT Tr.up
            rw [hu]
            by_cases hm : k ∈ U.od
            · rw [if_neg (fun q => q hm), if_neg (fun q => q.2 hm)]
            · rw [if_pos hm, if_pos ⟨rfl, hm⟩]
          rw [e] at q
          refine q.mono ?_
          rintro e' w' ⟨rfl, hq⟩
          exact ⟨rfl, Ts.trans (k1.drewN n) g1 hq⟩
        have FIN : Hid (benT T p (List.range' (p + 1) (k + 1 - (p + 1))) = stepT U p k ∧ J (stepT U p k) ∧ (stepT U p k).ns.length = N) := ⟨SN.out, J1, by rw [J2, r3]⟩
        clear t1 k1 g1 n0 n1 n5 n6 n7 n8 ow fz HR SN J1 J2 hu r1 r2 hnv hnv2 c0 c2 c3 hcn hkU
        go_wp2_with (first | (go_at_call 58; refine HA.out.mono ?_; rintro e w2 ⟨rfl, nq, hw2⟩; subst w2) | (go_at_call 51; refine (CC.out nq).mono ?_; rintro e w3 ⟨rfl, hq⟩; have HQ := hid hq; clear hq))
        go_roundw
        case rel => exact ⟨k + 1, stepT U p k, _, by omega, by omega, by go_num, rfl, hid ⟨FIN.out.1, FIN.out.2.1, FIN.out.2.2, HQ.out⟩⟩
        case measure => simp [intOf]; omega
    · have hkN : k = N := by omega
      have FIN : Hid (Ts w b cb mb nv ov wr (benT T p (List.range' (p + 1) (N - (p + 1))))) := by
        show Ts _ _ _ _ _ _ _ _
        rw [← hkN, r1]
        exact ⟨nv1, ov1, L1, t1, k1, g1⟩
      rw [hnv] at c1
      clear t1 k1 g1 HR SN r1 r2 hnv c0 c2 c3 hcn
      go_wp2
      go_end0
      exact ⟨rfl, FIN.out⟩
theorem fp_ne {w : World} {b cb mb : Nat} {nv ov : Value} {L : List NM} {T : Tr} (h : TX w b cb mb nv ov L T) {x : Nat} (hx : w.heap.size ≤ x) : ¬ fp b cb mb nv ov x := fun q => by
  have := h.okF.lt q
  omega
/-- A why is written. -/
theorem why_tx {w w' : World} {b cb mb X n cap : Nat} {ov : Value} {L : List NM} {T : Tr} (h : TX w b cb mb (.slice (some ⟨X, 0, none⟩) n cap) ov L T) {p : Nat} (hp : p < T.ns.length) (hn : p ∉ T.od) {yp : Option Addr} {yc : Nat} {y : List Cr} (hy : OwnC w 0 (.slice yp y.length yc) y) (hw : w' = (w.setCell ⟨X, p * 9 + 8, none⟩ (.slice yp y.length yc)).drew) :
    ∃ L', TX w' b cb mb (.slice (some ⟨X, 0, none⟩) n cap) ov L' (whyT T p y) ∧ But (fp b cb mb (.slice (some ⟨X, 0, none⟩) n cap) ov) w w' := by
  obtain ⟨hl, hr⟩ := h.getL hp
  have k : But (fun x => x = X) w w' := by rw [hw]; exact (But.set X (p * 9 + 8) (.slice yp y.length yc)).drew
  have ok : OkF w (fun x => x = X) := fun z hz => h.okF z (by subst hz; exact Or.inr (Or.inr (Or.inr (Or.inl rfl))))
  have cn := whyT_cn hp hn y
  have e := whyT_n hp y
  refine ⟨_, h.nset (U := whyT T p y) (X := X) rfl k hp { L[p] with wp := yp, wn := y.length, wc := yc } ?_ rfl rfl (whyT_len _ _ _) cn.nms (fun a ha => by rw [e, if_neg ha]) ?_ (fun j => by rw [cn.ab]; exact h.wd p j hp), k.weak (fun z hz => by subst hz; exact Or.inr (Or.inr (Or.inr (Or.inl rfl))))⟩
  · rw [hw]
    exact h.nr.setW KN_ok.len hl (j := 8) (by decide) { L[p] with wp := yp, wn := y.length, wc := yc } (.slice yp y.length yc) rfl
  · rw [e, if_pos rfl]
    exact ⟨hr.name, hr.ab, hr.til, hr.rk, hr.bw, ownC_g (hy.g.butF k ok kc_no)⟩
set_option maxHeartbeats 8000000 in
set_option maxRecDepth 100000 in
theorem cancel_any (w : World) (b cb mb : Nat) (nv ov : Value) (L : List NM) (T : Tr) (h : TX w b cb mb nv ov L T) (p : Nat) (hp : p < T.ns.length) (hj : J T) (yp : Option Addr) (yc : Nat) (y : List Cr) (hy : OwnC w 0 (.slice yp y.length yc) y) :
    Calls Tryd.prog 33 #[.pointer (some ⟨b, 0, none⟩), .int .i64 p, .slice yp y.length yc] w fun e w' => e = .returned (.tuple #[]) ∧ Ts w b cb mb nv ov w' (cancelT T p y) := by
  obtain ⟨W, hW⟩ : ∃ W, W = (w.alloc (.cells #[.pointer (some ⟨b, 0, none⟩)] 24)).alloc (.cells #[.int .i64 p] 3) := ⟨_, rfl⟩
  have bW : Below w.heap.size w W := by rw [hW]; exact ((Below.refl _ _).alloc (Nat.le_refl _) _).alloc (by simp) _
  have tW := h.below bW
  have DN := isDone_any W b cb mb nv ov L T tW p hp
  by_cases hd : p ∈ T.od
  · have e : cancelT T p y = T := by unfold cancelT; rw [if_pos hd]
    rw [e]
    have FIN : Hid (Ts w b cb mb nv ov W T) := ⟨nv, ov, L, tW, But.of_below bW, Fr.refl _ _⟩
    rw [decide_eq_true hd, hW] at DN
    rw [hW] at FIN
    have DN2 := hid DN
    clear DN h hd tW hy e bW hW
    go_enter Tryd.func33, Tryd.ntmps33
    go_wp2_with (go_at_call 26; refine DN2.out.mono ?_; rintro e w2 ⟨rfl, hw2⟩; subst w2)
    exact bodyPost_ret (v := .tuple #[]) (by simp [results, Tryd.results33, go_sem]) rfl ⟨rfl, FIN.out⟩
  · have e : cancelT T p y = benT (endT (whyT T p y) p p) p (List.range' (p + 1) (T.ns.length - (p + 1))) := by unfold cancelT; rw [if_neg hd]
    rw [e]
    rw [decide_eq_false hd, hW] at DN
    have DN2 := hid DN
    obtain ⟨c0, c1, c2, c3⟩ := tW.cells
    obtain ⟨X, cap, hnv, hcap, hX, fz, n0, n1, n5, n6, n7, wp, wc, n8, ow⟩ := tW.nd hp
    subst hnv
    have fz8 := fz (p * 9 + 8)
    have hnl := h.nl
    have b1 : W.cell? ⟨w.heap.size, 0, none⟩ = some (.pointer (some ⟨b, 0, none⟩)) := by
      rw [hW, cell_of_row _ _ _ #[.pointer (some ⟨b, 0, none⟩)] 24 (0, 0)]
      · rfl
      · rw [Below.heap_alloc _ _ _ (by simp)]; exact heap_alloc_new w _
    have b2 : W.cell? ⟨w.heap.size + 1, 0, none⟩ = some (.int .i64 p) := by
      rw [hW, cell_of_row _ _ _ #[.int .i64 p] 3 (0, 0)]
      · rfl
      · have := heap_alloc_new (w.alloc (.cells #[.pointer (some ⟨b, 0, none⟩)] 24)) (.cells #[.int .i64 p] 3)
        rw [show (w.alloc (.cells #[.pointer (some ⟨b, 0, none⟩)] 24)).heap.size = w.heap.size + 1 by simp] at this
        exact this
    have l1 : w.heap.size < W.heap.size := block_lt_of_cell b1
    have l2 : w.heap.size + 1 < W.heap.size := block_lt_of_cell b2
    have g1 := fp_ne h (x := w.heap.size) (Nat.le_refl _)
    have g2 := fp_ne h (x := w.heap.size + 1) (by omega)
    obtain ⟨V, hV⟩ : ∃ V, V = (W.setCell ⟨X, p * 9 + 8, none⟩ (.slice yp y.length yc)).drew := ⟨_, rfl⟩
    obtain ⟨L1, t1, k1⟩ := why_tx tW hp hd (hy.below bW) hV
    have bV : ∀ x, ¬ fp b cb mb (.slice (some ⟨X, 0, none⟩) T.ns.length cap) ov x → x < W.heap.size → V.heap[x]? = W.heap[x]? := fun x hx hl => k1.block x hl hx
    have v1 : V.cell? ⟨w.heap.size, 0, none⟩ = some (.pointer (some ⟨b, 0, none⟩)) := (World.cell?_of_block (w := W) (a := ⟨w.heap.size, 0, none⟩) (bV _ g1 l1)).trans b1
    have v2 : V.cell? ⟨w.heap.size + 1, 0, none⟩ = some (.int .i64 p) := (World.cell?_of_block (w := W) (a := ⟨w.heap.size + 1, 0, none⟩) (bV _ g2 l2)).trans b2
    have hjw := hj.why p y
    have hpw : p < (whyT T p y).ns.length := by rw [whyT_len]; exact hp
    have EN := hid (end_any V b cb mb _ ov L1 (whyT T p y) t1 p p hpw hd (hjw.room hpw hd))
    have zV : W.heap.size ≤ V.heap.size := k1.size
    have BN : Hid (∀ w3, Ts V b cb mb (.slice (some ⟨X, 0, none⟩) T.ns.length cap) ov w3 (endT (whyT T p y) p p) → w3.cell? ⟨w.heap.size, 0, none⟩ = some (.pointer (some ⟨b, 0, none⟩)) ∧ w3.cell? ⟨w.heap.size + 1, 0, none⟩ = some (.int .i64 p) ∧ Calls Tryd.prog 50 #[.pointer (some ⟨b, 0, none⟩), .int .i64 p, .func (.func 51) #[] #[.pointer (some ⟨w.heap.size, 0, none⟩), .pointer (some ⟨w.heap.size + 1, 0, none⟩)]] w3 fun e w' => e = .returned (.tuple #[]) ∧ Ts w b cb mb (.slice (some ⟨X, 0, none⟩) T.ns.length cap) ov w' (benT (endT (whyT T p y) p p) p (List.range' (p + 1) (T.ns.length - (p + 1))))) := by
      rintro w3 ⟨nv3, ov3, L3, t3, k3, f3⟩
      have x1 : w3.cell? ⟨w.heap.size, 0, none⟩ = some (.pointer (some ⟨b, 0, none⟩)) := (World.cell?_of_block (w := V) (a := ⟨w.heap.size, 0, none⟩) (k3.block w.heap.size (by omega) g1)).trans v1
      have x2 : w3.cell? ⟨w.heap.size + 1, 0, none⟩ = some (.int .i64 p) := (World.cell?_of_block (w := V) (a := ⟨w.heap.size + 1, 0, none⟩) (k3.block (w.heap.size + 1) (by omega) g2)).trans v2
      refine ⟨x1, x2, ?_⟩
      have hl3 : (endT (whyT T p y) p p).ns.length = T.ns.length := by rw [endT_len, whyT_len]
      have q := beneath_any w3 b cb mb nv3 ov3 L3 _ t3 w.heap.size (w.heap.size + 1) p x1 x2 (by rw [hl3]; exact hp) (hjw.end hpw hd p) (block_lt_of_cell x1) (block_lt_of_cell x2) (fun q => by
        rcases f3 _ q with r | r
        · exact g1 r
        · omega) (fun q => by
        rcases f3 _ q with r | r
        · exact g2 r
        · omega)
      rw [hl3] at q
      refine q.mono ?_
      rintro e' w' ⟨rfl, hq⟩
      refine ⟨rfl, ?_⟩
      have kA : But (fp b cb mb (.slice (some ⟨X, 0, none⟩) T.ns.length cap) ov) w V := (But.of_below bW).trans k1 (fun x hx => Or.inl hx)
      refine Ts.trans (kA.comp k3 (Fr.refl _ _)) ?_ hq
      intro x hx
      rcases f3 x hx with r | r
      · exact Or.inl r
      · exact Or.inr (Nat.le_trans kA.size r)
    have HW := hid hW
    have HV := hid hV
    have VC := hid (And.intro v1 v2)
    clear t1 k1 bV v1 v2 hjw hpw tW n0 n1 n5 n6 n7 ow fz h hj hd hy e bW DN c0 c2 c3 g1 g2 hW hV
    go_enter Tryd.func33, Tryd.ntmps33
    go_wp2_with (go_at_call 26; refine DN2.out.mono ?_; rintro e w2 ⟨rfl, hw2⟩; rw [hw2, ← HW.out]; clear hw2)
    go_region
    rw [← HV.out]
    have v1 := VC.out.1
    have v2 := VC.out.2
    clear b1 b2 c1 n8
    go_wp2_with (first | (go_at_call 31; refine EN.out.mono ?_; rintro e w3 ⟨rfl, hq⟩; obtain ⟨y1, y2, hq⟩ := BN.out w3 hq; have HQ := hid hq; clear hq) | (go_at_call 50; refine HQ.out.mono ?_; rintro e w4 ⟨rfl, hq⟩; have HR := hid hq; clear hq))
    go_end0
    exact ⟨rfl, HR.out⟩
end Go.Proofs.YtkebflllbphkkaaDoor
