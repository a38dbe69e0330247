/- Tokens: due. -/
import Derived.Test.YtkebflllbphkkaaDoorTq8
import Derived.Test.YtkebflllbphkkaaDoorSp8
namespace Go.Proofs.YtkebflllbphkkaaDoor
open Go.RowKit

set_option maxHeartbeats 4000000 in
theorem insN_any (w : World) (fn : Nat) (cp : Array Value) :
    Calls Tryd.prog 75 #[.slice none 0 0, .int .i64 0, .int .i64 0, .func (.func fn) #[] cp] w fun e w' => e = .returned (.tuple #[]) ∧ w' = w := by
  go_enter Tryd.func75, Tryd.ntmps75
  go_wp2_with fail
  go_loop [8] (fun v8 => v8 = .int .i64 1) (fun _ => 0)
  case atStart => rfl
  case round =>
    subst hrel
    go_wp2_with fail
    go_end0
    exact ⟨rfl, rfl⟩
set_option maxHeartbeats 4000000 in
theorem stableN_any (w : World) (fn : Nat) (cp : Array Value) :
    Calls Tryd.prog 69 #[.slice none 0 0, .int .i64 0, .func (.func fn) #[] cp] w fun e w' => e = .returned (.tuple #[]) ∧ w' = w := by
  have IN := hid (insN_any w fn cp)
  go_enter Tryd.func69, Tryd.ntmps69
  go_wp2_with fail
  go_loop [7, 8] (fun v7 v8 => v7 = .int .i64 0 ∧ v8 = .int .i64 20) (fun _ _ => 0)
  case atStart => exact ⟨rfl, rfl⟩
  case round =>
    obtain ⟨rfl, rfl⟩ := hrel
    go_wp2_with (go_at_call 75; refine IN.out.mono ?_; rintro e w2 ⟨rfl, hw2⟩; subst w2)
    go_loop [6] (fun v6 => v6 = .int .i64 20) (fun _ => 0)
    case atStart => rfl
    case round =>
      subst hrel
      go_wp2_with fail
      go_end0
      exact ⟨rfl, rfl⟩
set_option maxHeartbeats 4000000 in
theorem sortN_any (w : World) (fn : Nat) (cp : Array Value) :
    Calls Tryd.prog 62 #[.slice none 0 0, .func (.func fn) #[] cp] w fun e w' => e = .returned (.tuple #[]) ∧ w' = w := by
  have IN := hid (stableN_any w fn cp)
  go_enter Tryd.func62, Tryd.ntmps62
  go_wp2_with (go_at_call 69; refine IN.out.mono ?_; rintro e w2 ⟨rfl, hw2⟩; subst w2)
  go_end0
  exact ⟨rfl, rfl⟩
/-- Which are due, up to a place. -/
def dueB (T : Tr) (p : Nat) : Bool := decide ((T.n p).til ≤ T.now) && !decide (p ∈ T.od)
def dueK (T : Tr) (k : Nat) : List Nat := (List.range k).filter (dueB T)
theorem dueK_succ (T : Tr) (k : Nat) : dueK T (k + 1) = if dueB T k = true then dueK T k ++ [k] else dueK T k := by
  unfold dueK
  rw [List.range_succ, List.filter_append]
  by_cases h : dueB T k = true
  · rw [if_pos h]; simp [h]
  · rw [if_neg h]; simp [h]
theorem dueK_lt {T : Tr} {k p : Nat} (h : p ∈ dueK T k) : p < k := by
  unfold dueK at h
  rw [List.mem_filter, List.mem_range] at h
  exact h.1
theorem dueK_len (T : Tr) (k : Nat) : (dueK T k).length ≤ k := by
  unfold dueK
  have := List.length_filter_le (dueB T) (List.range k)
  simpa using this
/-- By deadlines, and of one by places. -/
def lexL (T : Tr) (a b : Nat) : Prop := (T.n a).til < (T.n b).til ∨ ((T.n a).til = (T.n b).til ∧ a < b)
/-- What due answers. -/
structure DU (T : Tr) (E : List Nat) : Prop where
  pm : E.Perm (dueK T T.ns.length)
  ord : E.Pairwise (lexL T)
def cT (T : Tr) (x y : Int) : Int := cmpI (T.n x.toNat).til (T.n y.toNat).til
theorem cT_ord (T : Tr) : OrdC (cT T) := ⟨fun x y => by unfold cT cmpI; split <;> split <;> omega, fun x y z h1 h2 => by unfold cT cmpI at *; split at h1 <;> split at h2 <;> (try split at h1) <;> (try split at h2) <;> (split <;> (try split) <;> omega)⟩
theorem kp_ki {w : World} {base : Nat} {v : Value} {l : List Nat} : OwnG KP w base v l ↔ OwnG KI w base v (l.map (fun (x : Nat) => (x : Int))) := by
  unfold OwnG
  have : (l.map (fun (x : Nat) => (x : Int))).flatMap KI.f = l.flatMap KP.f := by
    rw [List.flatMap_map]; rfl
  rw [this, List.length_map]
  exact Iff.rfl
theorem gD_map {l : List Nat} {k : Nat} (h : k < l.length) : gD (l.map (fun (x : Nat) => (x : Int))) k = (l[k] : Int) := by
  rw [gD_get (by simpa using h)]; simp
theorem unmap {E : List Int} {l : List Nat} (h : E.Perm (l.map (fun (x : Nat) => (x : Int)))) : ∃ F : List Nat, E = F.map (fun (x : Nat) => (x : Int)) ∧ F.Perm l := by
  refine ⟨E.map Int.toNat, ?_, ?_⟩
  · rw [List.map_map]
    have : ∀ x ∈ E, ((fun (x : Nat) => (x : Int)) ∘ Int.toNat) x = x := fun x hx => by
      obtain ⟨y, _, hy⟩ := List.mem_map.1 (h.mem_iff.1 hx)
      show ((x.toNat : Nat) : Int) = x
      omega
    rw [List.map_congr_left this, List.map_id']
  · have := h.map Int.toNat
    rw [List.map_map] at this
    have e : (Int.toNat ∘ fun (x : Nat) => (x : Int)) = id := by funext x; simp
    rw [e, List.map_id] at this
    exact this
theorem DU.of {T : Tr} {E : List Int} (h1 : Run (cT T) E 0 (dueK T T.ns.length).length) (h2 : RelT (cT T) 0 (dueK T T.ns.length).length ((dueK T T.ns.length).map (fun (x : Nat) => (x : Int))) E) : ∃ F : List Nat, E = F.map (fun (x : Nat) => (x : Int)) ∧ DU T F := by
  obtain ⟨F, e, pm⟩ := unmap h2.pm
  have hl : E.length = (dueK T T.ns.length).length := by rw [h2.len, List.length_map]
  have hlF : F.length = (dueK T T.ns.length).length := by rw [← hl, e, List.length_map]
  have ti : TI (cT T) E := h2.ti (by
    intro i j hij hj _
    have hj2 : j < (dueK T T.ns.length).length := by simpa using hj
    rw [gD_map (by omega), gD_map hj2]
    have hs : (dueK T T.ns.length).Pairwise (· < ·) := by
      unfold dueK
      exact List.Pairwise.filter _ (List.pairwise_lt_range ..)
    have := (List.pairwise_iff_getElem.1 hs) i j (by omega) hj2 hij
    omega)
  refine ⟨F, e, pm, ?_⟩
  rw [List.pairwise_iff_getElem]
  intro i j hi hj hij
  have r1 := h1 i j (Nat.zero_le _) hij (by omega)
  have t1 := ti i j hij (by omega)
  rw [e, gD_map hi, gD_map hj] at r1 t1
  unfold cT cmpI at r1 t1
  simp only [Int.toNat_natCast] at r1 t1
  unfold lexL
  by_cases q1 : (T.n F[i]).til < (T.n F[j]).til
  · exact Or.inl q1
  · by_cases q2 : (T.n F[j]).til < (T.n F[i]).til
    · rw [if_neg q1, if_pos q2] at r1; omega
    · rw [if_neg q1, if_neg q2] at t1
      have := t1 rfl
      exact Or.inr ⟨by omega, by omega⟩
theorem TX.butX {w w' : World} {b cb mb g : Nat} {nv ov : Value} {L : List NM} {T : Tr} (h : TX w b cb mb nv ov L T) (k : Sm g w w') (hg : ¬ fp b cb mb nv ov g) (hk : ∃ c, w.heap[g]? = some (.cells c 3)) : TX w' b cb mb nv ov L T := by
  refine h.keep (G := fun x => x = g) ⟨k.os, k.tape, k.output, k.size, fun x hx hn => k.block x hx hn⟩ (fun x hx => ?_) (fun x hx e => hg (e ▸ hx))
  obtain ⟨c, hc⟩ := hk
  subst hx
  exact ⟨_, hc, Or.inr (Or.inr (Or.inr rfl))⟩

set_option maxHeartbeats 4000000 in
set_option maxRecDepth 100000 in
theorem dsort_any (w : World) (b cb mb : Nat) (nv ov : Value) (L : List NM) (T : Tr) (h : TX w b cb mb nv ov L T) (B1 base : Nat) (h1 : w.cell? ⟨B1, 0, none⟩ = some (.pointer (some ⟨b, 0, none⟩))) (v : Value) (hv : OwnG KP w base v (dueK T T.ns.length)) (hF : ∀ x, base ≤ x → ¬ fp b cb mb nv ov x) (hB : B1 < base) :
    Calls Tryd.prog 62 #[v, .func (.func 63) #[] #[.pointer (some ⟨B1, 0, none⟩)]] w fun e w' => e = .returned (.tuple #[]) ∧ ∃ E, DU T E ∧ OwnG KP w' base v E ∧ Below base w w' := by
  rcases hv.2 with ⟨e0, e1⟩ | ⟨g, cap, cur, e0, hg, hh, hc, hm, hs, ht⟩
  · rw [e0]
    refine (sortN_any w _ _).mono ?_
    rintro e w' ⟨rfl, hw⟩
    subst hw
    have e2 : dueK T T.ns.length = [] := List.length_eq_zero_iff.1 e1
    exact ⟨rfl, [], ⟨by rw [e2], List.Pairwise.nil⟩, OwnG.nil _ _ _, Below.refl _ _⟩
  · subst e0
    have hg2 : ¬ fp b cb mb nv ov g := hF g hg
    have CM : CmpOk T.ns.length w g 63 #[.pointer (some ⟨B1, 0, none⟩)] (cT T) := by
      refine ⟨fun _ _ => rfl, fun wk s x y x1 x2 y1 y2 => ?_, fun x y => by unfold cT cmpI; split <;> (try split) <;> omega, cT_ord T⟩
      obtain ⟨x, rfl⟩ : ∃ m : Nat, x = m := ⟨x.toNat, by omega⟩
      obtain ⟨y, rfl⟩ : ∃ m : Nat, y = m := ⟨y.toNat, by omega⟩
      have tk := h.butX s hg2 ⟨cur, hh⟩
      have c1 : wk.cell? ⟨B1, 0, none⟩ = some (.pointer (some ⟨b, 0, none⟩)) := (World.cell?_of_block (w := w) (a := ⟨B1, 0, none⟩) (s.block B1 (block_lt_of_cell h1) (by omega))).trans h1
      refine (due1_any wk b cb mb nv ov L T tk B1 x y c1 (by omega) (by omega)).mono ?_
      rintro e w' ⟨rfl, n, hw⟩
      refine ⟨rfl, ?_⟩
      rw [hw]
      exact ⟨rfl, rfl, rfl, Nat.le_refl _, fun _ _ => rfl⟩
    have hki := kp_ki.1 (hv.low (Nat.zero_le _))
    have D0 : SD cap T.ns.length w w g (dueK T T.ns.length).length ((dueK T T.ns.length).map (fun (x : Nat) => (x : Int))) := ⟨hki, by simp, Sm.refl _ _, fun k hk => by
      rw [gD_map hk]
      have := dueK_lt (List.getElem_mem hk)
      omega⟩
    refine (sortStable_any T.ns.length w g (dueK T T.ns.length).length _ _ (cT T) _ CM D0 (by have := dueK_len T T.ns.length; have := h.nl; omega)).mono ?_
    rintro e w' ⟨rfl, E, q1, q2, q3⟩
    obtain ⟨F, e2, du⟩ := DU.of q2 q3
    refine ⟨rfl, F, du, ?_, ?_⟩
    · have o1 := q1.ow
      rw [e2] at o1
      have o2 := kp_ki.2 o1
      have hl : F.length = (dueK T T.ns.length).length := du.pm.length_eq
      obtain ⟨a1, a2⟩ := o2
      refine ⟨a1, ?_⟩
      rcases a2 with ⟨a2, _⟩ | ⟨g', cap', cur', a3, a4, a5⟩
      · cases a2
      · injection a3 with a3 a6 a7
        injection a3 with a3
        injection a3 with a3 _ _
        subst a3
        exact Or.inr ⟨g, cap', cur', by rw [a7, hl], hg, a5⟩
    · have sm := q1.sm
      exact ⟨sm.os, sm.tape, sm.output, sm.size, fun j hj => by
        by_cases hjl : j < w.heap.size
        · exact sm.block j hjl (by omega)
        · have := (hv.lt (g := g) rfl).2; omega⟩
set_option maxHeartbeats 16000000 in
set_option maxRecDepth 100000 in
theorem due_any (w : World) (b cb mb : Nat) (nv ov : Value) (L : List NM) (T : Tr) (h : TX w b cb mb nv ov L T) :
    Calls Tryd.prog 52 #[.pointer (some ⟨b, 0, none⟩)] w fun e w' => ∃ v E, e = .returned v ∧ DU T E ∧ OwnG KP w' w.heap.size v E ∧ Below w.heap.size w w' := by
  obtain ⟨w1, hw1⟩ : ∃ w1, w1 = w.alloc (.cells #[.pointer (some ⟨b, 0, none⟩)] 24) := ⟨_, rfl⟩
  have b1 : Below w.heap.size w w1 := by rw [hw1]; exact (Below.refl _ _).alloc (Nat.le_refl _) _
  have t1 := h.below b1
  have x1 : w1.cell? ⟨w.heap.size, 0, none⟩ = some (.pointer (some ⟨b, 0, none⟩)) := by rw [hw1, cell_of_row _ _ _ _ _ _ (heap_alloc_new w _)]; rfl
  have z1 : w1.heap.size = w.heap.size + 1 := by rw [hw1]; simp
  obtain ⟨c0, c1, c2, c3⟩ := t1.cells
  obtain ⟨pn, cn, hnv, hcn⟩ := h.nr.form
  rw [h.ll] at hnv hcn
  subst hnv
  have hnl := h.nl
  have T1 := hid t1
  have B1 := hid b1
  have HW := hid hw1
  have X1 := hid x1
  have Z1 := hid z1
  have FG : Hid (∀ x, w1.heap.size ≤ x → ¬ fp b cb mb (.slice pn T.ns.length cn) ov x) := fun x hx => fp_ne t1 hx
  obtain ⟨N, hN⟩ : ∃ N, N = T.ns.length := ⟨_, rfl⟩
  rw [← hN] at c1 T1 FG hcn hnl
  have HN := hid hN
  clear h t1 b1 hw1 x1 z1 c0 c2 c3 hN
  go_enter Tryd.func52, Tryd.ntmps52
  go_upto_region 2 with fail
  rw [← HW.out]
  have x1 := X1.out
  have I0 : Hid (OwnG KP w1 w1.heap.size (.slice none 0 0) (dueK T 0) ∧ Below w1.heap.size w1 w1) := ⟨OwnG.nil _ _ _, Below.refl _ _⟩
  clear X1
  go_wp2_with fail
  go_loopw [3, 11] (fun v3 v11 wr => ∃ (k : Nat) (vs : Value) (wk : World), v11 = .int .i64 k ∧ vs = v3 ∧ wk = wr ∧ k ≤ N ∧ Hid (OwnG KP wk w1.heap.size vs (dueK T k) ∧ Below w1.heap.size w1 wk)) (fun _ v11 _ => N - (intOf v11).toNat)
  case atStart => exact ⟨0, _, _, rfl, rfl, rfl, Nat.zero_le _, I0⟩
  case round =>
    obtain ⟨k, vs, wr, rfl, rfl, rfl, hk, HS⟩ := hrel
    clear I0 x1 c1
    have tr := T1.out.below HS.out.2
    obtain ⟨c0, c1, c2, c3⟩ := tr.cells
    have hzr : w1.heap.size ≤ wr.heap.size := HS.out.2.size
    by_cases hlt : k < N
    · have hkT : k < T.ns.length := by rw [← HN.out]; exact hlt
      obtain ⟨X, cap, hnv, hcap, hX, fz, n0, n1, n5, n6, n7, wp, wc, n8, ow⟩ := tr.nd hkT
      have hpn : pn = some ⟨X, 0, none⟩ := by injection hnv
      subst hpn
      have a0 := n1 0 (by omega)
      have a1 := n1 1 (by omega)
      have a2 := n1 2 (by omega)
      have a3 := n1 3 (by omega)
      rw [Nat.add_zero] at a0
      obtain ⟨W, hW⟩ : ∃ W, W = wr.alloc (.cells (ndA (T.n k).name (T.n k).ab (T.n k).til (rkOf T.od k : Nat) ((T.n k).bw : Nat) (.slice wp (T.n k).why.length wc)) 71) := ⟨_, rfl⟩
      have bW : Below wr.heap.size wr W := by rw [hW]; exact (Below.refl _ _).alloc (Nat.le_refl _) _
      have tW := tr.below bW
      have wx : W.cell? ⟨w.heap.size, 0, none⟩ = some (.pointer (some ⟨b, 0, none⟩)) := by
        have e1 : w1.cell? ⟨w.heap.size, 0, none⟩ = some (.pointer (some ⟨b, 0, none⟩)) := by rw [HW.out, cell_of_row _ _ _ _ _ _ (heap_alloc_new w _)]; rfl
        have e2 : Below w1.heap.size w1 W := HS.out.2.trans (bW.mono hzr)
        exact (e2.cell (p := ⟨w.heap.size, 0, none⟩) (by have := Z1.out; show w.heap.size < w1.heap.size; omega)).trans e1
      have wt : W.cell? ⟨wr.heap.size, 5, none⟩ = some (.int .i64 (T.n k).til) := by rw [hW, cell_of_row _ _ _ _ _ _ (heap_alloc_new wr _)]; rfl
      obtain ⟨w0c, _, _, _⟩ := tW.cells
      have NW : Hid (∀ n, Calls Tryd.prog 40 #[.pointer (some ⟨cb, 0, none⟩)] (W.drewN n) fun e w' => e = .returned (.int .i64 T.now) ∧ w' = W.drewN n) := fun n => cnow_any (W.drewN n) cb T.now (tW.drewN n).ckc.1
      have DN : Hid (∀ n, Calls Tryd.prog 26 #[.pointer (some ⟨b, 0, none⟩), .int .i64 k] (W.drewN n) fun e w' => e = .returned (.bool (decide (k ∈ T.od))) ∧ w' = W.drewN n) := fun n => isDone_any (W.drewN n) b cb mb _ ov L T (tW.drewN n) k hkT
      have DS := hid (dueK_succ T k)
      have SKIP : Hid (dueB T k = false → ∀ n, OwnG KP (W.drewN n) w1.heap.size vs (dueK T (k + 1)) ∧ Below w1.heap.size w1 (W.drewN n)) := fun hd n => by
        rw [DS.out, hd, if_neg (by simp)]
        have bn : Below wr.heap.size wr (W.drewN n) := ⟨bW.os, bW.tape, bW.output, bW.size, bW.block⟩
        exact ⟨HS.out.1.below bn, HS.out.2.trans (bn.mono hzr)⟩
      have OWN : Hid (∀ n, OwnG KP (W.drewN n) w1.heap.size vs (dueK T k) ∧ Below w1.heap.size w1 (W.drewN n)) := fun n => by
        have bn : Below wr.heap.size wr (W.drewN n) := ⟨bW.os, bW.tape, bW.output, bW.size, bW.block⟩
        exact ⟨HS.out.1.below bn, HS.out.2.trans (bn.mono hzr)⟩
      have HDB : Hid (dueB T k = (decide ((T.n k).til ≤ T.now) && !decide (k ∈ T.od))) := rfl
      have HWW := hid hW
      have DL := hid (dueK_len T k)
      clear n1 ow HS tr tW bW fz hcap hnv c0 c2 c3 hW
      generalize (T.n k).name = nm at *
      generalize (T.n k).ab = ab at *
      generalize (T.n k).til = tl at *
      generalize rkOf T.od k = rk at *
      generalize (T.n k).bw = bw at *
      generalize (T.n k).why.length = wl at *
      generalize T.now = now at *
      go_upto_region 5 with fail
      rw [show (#[Value.string nm, .int .u64 (ab 0), .int .u64 (ab 1), .int .u64 (ab 2), .int .u64 (ab 3), .int .i64 tl, .int .i64 rk, .int .i64 bw, .slice wp wl wc] : Array Value) = ndA nm ab tl rk bw (.slice wp wl wc) from rfl, ← HWW.out]
      clear HWW n0 a0 a1 a2 a3 n5 n6 n7 n8 c1
      by_cases hle : tl ≤ now
      · have hd1 : decide (tl ≤ now) = true := by simpa using hle
        cases hin : decide (k ∈ T.od) with
        | true =>
          have SK := hid (SKIP.out (by rw [HDB.out, hin]; simp))
          rw [hin] at DN
          clear SKIP OWN DS HDB hin
          go_quiet ((first | (go_at_call 40; exact Calls.quiet_of_same (NW.out _)) | (go_at_call 26; exact Calls.quiet_of_same (DN.out _))))
          go_wp2_with fail
          go_roundw
          case rel => exact ⟨k + 1, vs, _, by go_num, rfl, rfl, by omega, SK.out nq⟩
          case measure => simp [intOf]; omega
        | false =>
          have DS2 : Hid (dueK T (k + 1) = dueK T k ++ [k]) := by show _ = _; rw [DS.out, HDB.out, hin, hd1]; rfl
          rw [hin] at DN
          clear SKIP DS HDB hin
          go_quiet ((first | (go_at_call 40; exact Calls.quiet_of_same (NW.out _)) | (go_at_call 26; exact Calls.quiet_of_same (DN.out _))))
          have OV := hid (OWN.out nq)
          clear OWN NW DN
          generalize W.drewN nq = V at *
          clear wx wt w0c
          go_wp2_with (at_builtin; refine append_g KP KP_ok rfl _ _ 51 rfl w1.heap.size Tryd.underlying51 V _ _ vs (dueK T k) k _ rfl OV.out.1 V.heap.size rfl rfl rfl (by have := DL.out; show (_ + 1) * 8 ≤ _; omega) OV.out.2.size ?_; intro g3 cap3 w3 ho3 hb3 hk3 hg3; have O3 : Hid (OwnG KP w3 w1.heap.size (.slice (some ⟨g3, 0, none⟩) ((dueK T k).length + 1) cap3) (dueK T (k + 1)) ∧ Below w1.heap.size w1 w3) := ⟨by rw [DS2.out]; exact ho3, OV.out.2.trans hb3⟩; clear ho3 hb3 hk3 hg3)
          go_roundw
          case rel => exact ⟨k + 1, _, _, by go_num, rfl, rfl, by omega, O3⟩
          case measure => simp [intOf]; omega
      · have hd1 : decide (tl ≤ now) = false := by simpa using hle
        have SK := hid (SKIP.out (by rw [HDB.out, hd1]; rfl))
        clear SKIP OWN DS HDB DN
        go_quiet ((go_at_call 40; exact Calls.quiet_of_same (NW.out _)))
        go_wp2_with fail
        go_roundw
        case rel => exact ⟨k + 1, vs, _, by go_num, rfl, rfl, by omega, SK.out nq⟩
        case measure => simp [intOf]; omega
    · have hkN : k = T.ns.length := by have := HN.out; omega
      have e1 : w1.cell? ⟨w.heap.size, 0, none⟩ = some (.pointer (some ⟨b, 0, none⟩)) := by rw [HW.out, cell_of_row _ _ _ _ _ _ (heap_alloc_new w _)]; rfl
      have e2 : wr.cell? ⟨w.heap.size, 0, none⟩ = some (.pointer (some ⟨b, 0, none⟩)) := (HS.out.2.cell (p := ⟨w.heap.size, 0, none⟩) (by have := Z1.out; show w.heap.size < w1.heap.size; omega)).trans e1
      have hv := HS.out.1
      rw [hkN] at hv
      have SO := hid (dsort_any wr b cb mb _ ov L T tr w.heap.size w1.heap.size e2 vs hv FG.out (by have := Z1.out; omega))
      have FIN : Hid (∀ w', Below w1.heap.size wr w' → ∀ E, OwnG KP w' w1.heap.size vs E → OwnG KP w' w.heap.size vs E ∧ Below w.heap.size w w') := fun w' q E ho => by
        have z := Z1.out
        refine ⟨ho.low (by omega), ?_⟩
        exact B1.out.trans ((HS.out.2.trans q).mono (by omega))
      clear tr HS hv e1 c0 c2 c3 c1
      go_wp2_with (go_at_call 62; refine SO.out.mono ?_; rintro e w5 ⟨rfl, E, q1, q2, q3⟩; have Q1 := hid q1; have Q2 := hid (FIN.out w5 q3 E q2); clear q1 q2 q3)
      go_ret
      exact ⟨vs, E, rfl, Q1.out, Q2.out⟩
end Go.Proofs.YtkebflllbphkkaaDoor
