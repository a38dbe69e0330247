/- Tokens: the law TokenLimits. -/
import Derived.Test.YtkebflllbphkkaaDoorTh2
namespace Go.Proofs.YtkebflllbphkkaaDoor
open Go.RowKit

/-- The least deadline of a token and of those that it hangs on, among the first. -/
def limT (T : Tr) (p : Nat) : Nat → Int
  | 0 => (T.n p).til
  | k + 1 => if T.up p k = true then min (limT T p k) (T.n k).til else limT T p k
theorem limT_le (T : Tr) (p : Nat) (x : Int) : ∀ k, limT T p k ≤ x ↔ (T.n p).til ≤ x ∨ ∃ q, q < k ∧ T.up p q = true ∧ (T.n q).til ≤ x
  | 0 => by
    show (T.n p).til ≤ x ↔ _
    constructor
    · exact Or.inl
    · rintro (h | ⟨q, h, _⟩)
      · exact h
      · omega
  | k + 1 => by
    have ih := limT_le T p x k
    show (if T.up p k = true then min (limT T p k) (T.n k).til else limT T p k) ≤ x ↔ _
    by_cases hu : T.up p k = true
    · rw [if_pos hu, show (min (limT T p k) (T.n k).til ≤ x ↔ limT T p k ≤ x ∨ (T.n k).til ≤ x) by omega, ih]
      constructor
      · rintro ((h | ⟨q, h1, h2⟩) | h)
        · exact Or.inl h
        · exact Or.inr ⟨q, by omega, h2⟩
        · exact Or.inr ⟨k, by omega, hu, h⟩
      · rintro (h | ⟨q, h1, h2, h3⟩)
        · exact Or.inl (Or.inl h)
        · by_cases e : q = k
          · subst e; exact Or.inr h3
          · exact Or.inl (Or.inr ⟨q, by omega, h2, h3⟩)
    · rw [if_neg hu, ih]
      constructor
      · rintro (h | ⟨q, h1, h2⟩)
        · exact Or.inl h
        · exact Or.inr ⟨q, by omega, h2⟩
      · rintro (h | ⟨q, h1, h2, h3⟩)
        · exact Or.inl h
        · by_cases e : q = k
          · subst e; exact absurd h2 hu
          · exact Or.inr ⟨q, by omega, h2, h3⟩
theorem limT_bd {T : Tr} (h : ∀ q, q < T.ns.length → 0 ≤ (T.n q).til ∧ (T.n q).til ≤ 1099511627777) {p : Nat} (hp : p < T.ns.length) : ∀ k, k ≤ p → 0 ≤ limT T p k ∧ limT T p k ≤ 1099511627777
  | 0, _ => h p hp
  | k + 1, hk => by
    have ih := limT_bd h hp k (by omega)
    have h1 := h k (by omega)
    show 0 ≤ (if T.up p k = true then min (limT T p k) (T.n k).til else limT T p k) ∧ (if T.up p k = true then min (limT T p k) (T.n k).til else limT T p k) ≤ _
    split
    · omega
    · exact ih
set_option maxHeartbeats 4000000 in
theorem lim1_any (w : World) (b cb mb : Nat) (nv ov : Value) (L : List NM) (T : Tr) (h : TX w b cb mb nv ov L T) (B1 B2 a : Nat) (x : Int) (h1 : w.heap[B1]? = some (.cells #[.int .i64 x] 3)) (h2 : w.cell? ⟨B2, 0, none⟩ = some (.pointer (some ⟨b, 0, none⟩))) (ha : a < T.ns.length) :
    Calls Tryd.prog 42 #[.int .i64 a, .pointer (some ⟨B1, 0, none⟩), .pointer (some ⟨B2, 0, none⟩)] w fun e w' => e = .returned (.tuple #[]) ∧ w' = (w.setCell ⟨B1, 0, none⟩ (.int .i64 (min x (T.n a).til))).drew := by
  obtain ⟨c0, c1, c2, c3⟩ := h.cells
  obtain ⟨X, cap, hnv, hcap, hX, fz, n0, n1, n5, n6, n7, wp, wc, n8, ow⟩ := h.nd ha
  rw [hnv] at c1
  have hnl := h.nl
  have d1 : w.cell? ⟨B1, 0, none⟩ = some (.int .i64 x) := by rw [cell_of_row _ _ _ _ _ _ h1]; rfl
  have f1 : w.frozen? ⟨B1, 0, none⟩ = false := by simp [World.frozen?, h1]
  generalize (T.n a).til = ta at *
  generalize T.ns.length = N at *
  clear h n0 n1 n6 n7 n8 ow c0 c2 c3 fz hnv h1
  go_enter Tryd.func42, Tryd.ntmps42
  go_wp2
  go_region
  all_goals go_wp2
  all_goals
    go_end0
    refine ⟨rfl, ?_⟩
    first | rfl | (congr 3; omega)
/-- The cell of the least deadline. -/
theorem lim_keep {w w' : World} {b cb mb : Nat} {nv ov : Value} {L : List NM} {T : Tr} (h : TX w b cb mb nv ov L T) {B1 : Nat} {o : Array Value} (h1 : w.heap[B1]? = some (.cells o 3)) (k : But (fun x => x = B1) w w') (f1 : ¬ fp b cb mb nv ov B1) : TX w' b cb mb nv ov L T :=
  h.keep k (fun x hx => by subst hx; exact ⟨_, h1, Or.inr (Or.inr (Or.inr rfl))⟩) (fun x hx e => by subst e; exact f1 hx)
set_option maxHeartbeats 8000000 in
set_option maxRecDepth 100000 in
theorem above_any (w : World) (b cb mb : Nat) (nv ov : Value) (L : List NM) (T : Tr) (h : TX w b cb mb nv ov L T) (B1 B2 p : Nat) (h1 : w.heap[B1]? = some (.cells #[.int .i64 (T.n p).til] 3)) (h2 : w.cell? ⟨B2, 0, none⟩ = some (.pointer (some ⟨b, 0, none⟩))) (hp : p < T.ns.length) (f1 : ¬ fp b cb mb nv ov B1) (hne : B2 ≠ B1) :
    Calls Tryd.prog 41 #[.pointer (some ⟨b, 0, none⟩), .int .i64 p, .func (.func 42) #[] #[.pointer (some ⟨B1, 0, none⟩), .pointer (some ⟨B2, 0, none⟩)]] w fun e w' => e = .returned (.tuple #[]) ∧ w'.heap[B1]? = some (.cells #[.int .i64 (limT T p p)] 3) ∧ But (fun x => x = B1) w w' := by
  have hnl := h.nl
  have H := hid h
  have H1 := hid h1
  have S0 : Hid (w.heap[B1]? = some (.cells #[.int .i64 (limT T p 0)] 3) ∧ But (fun x => x = B1) w w) := ⟨h1, But.refl _ _⟩
  have B2C : Hid (∀ wk, But (fun x => x = B1) w wk → wk.cell? ⟨B2, 0, none⟩ = some (.pointer (some ⟨b, 0, none⟩))) := fun wk k => (World.cell?_of_block (w := w) (a := ⟨B2, 0, none⟩) (k.block B2 (block_lt_of_cell h2) hne)).trans h2
  clear h h1 h2 hne
  go_enter Tryd.func41, Tryd.ntmps41
  go_wp2
  go_loopw [8] (fun i wr => ∃ (k : Nat) (wk : World), k ≤ p ∧ i = .int .i64 k ∧ wk = wr ∧ Hid (wk.heap[B1]? = some (.cells #[.int .i64 (limT T p k)] 3) ∧ But (fun x => x = B1) w wk)) (fun i _ => p - (intOf i).toNat)
  case atStart => exact ⟨0, w, Nat.zero_le _, rfl, rfl, S0⟩
  case round =>
    obtain ⟨k, wr, hk, rfl, rfl, HR⟩ := hrel
    clear S0
    obtain ⟨r1, r2⟩ := HR.out
    have t1 := lim_keep H.out H1.out r2 f1
    obtain ⟨c0, c1, c2, c3⟩ := t1.cells
    by_cases hlt : k < p
    · obtain ⟨X, cap, hnv2, hcap, hX, fz, n0, n1, n5, n6, n7, wp, wc, n8, ow⟩ := t1.nd hp
      rw [hnv2] at c1
      have HA := hid (has_any X (p * 9 + 1) k (T.n p).ab wr n1 (by omega) (fun j => t1.wd p j hp))
      cases hu : hasW (T.n p).ab k with
      | false =>
        rw [hu] at HA
        have FIN : Hid (∀ n, (wr.drewN n).heap[B1]? = some (.cells #[.int .i64 (limT T p (k + 1))] 3) ∧ But (fun x => x = B1) w (wr.drewN n)) := fun n => by
          have e : limT T p (k + 1) = limT T p k := by
            show (if T.up p k = true then min (limT T p k) (T.n k).til else limT T p k) = _
            rw [if_neg]
            unfold Tr.up
            rw [hu]; simp
          rw [e]
          exact ⟨r1, r2.drewN n⟩
        clear t1 r1 r2 n0 n1 n5 n6 n7 n8 ow fz HR hu hnv2 c0 c2 c3
        generalize T.ns.length = N at *
        go_wp2_with (go_at_call 58; refine HA.out.mono ?_; rintro e w2 ⟨rfl, nq, hw2⟩; subst w2)
        go_roundw
        case rel => exact ⟨k + 1, _, by omega, by go_num, rfl, FIN.out nq⟩
        case measure => simp [intOf]; omega
      | true =>
        rw [hu] at HA
        have CC : Hid (∀ n, Calls Tryd.prog 42 #[.int .i64 k, .pointer (some ⟨B1, 0, none⟩), .pointer (some ⟨B2, 0, none⟩)] (wr.drewN n) fun e w' => e = .returned (.tuple #[]) ∧ w'.heap[B1]? = some (.cells #[.int .i64 (limT T p (k + 1))] 3) ∧ But (fun x => x = B1) w w') := fun n => by
          have q := lim1_any (wr.drewN n) b cb mb nv ov L T (t1.drewN n) B1 B2 k (limT T p k) r1 (B2C.out _ (r2.drewN n)) (by omega)
          refine q.mono ?_
          rintro e' w' ⟨rfl, rfl⟩
          have e : limT T p (k + 1) = min (limT T p k) (T.n k).til := by
            show (if T.up p k = true then min (limT T p k) (T.n k).til else limT T p k) = _
            rw [if_pos]
            unfold Tr.up
            rw [hu]
          rw [e]
          refine ⟨rfl, ?_, ((r2.drewN n).trans (But.set B1 0 _) (fun y hy => Or.inl hy)).drew⟩
          exact heap_setCell_same (wr.drewN n) B1 0 _ _ _ r1
        clear t1 r1 r2 n0 n1 n5 n6 n7 n8 ow fz HR hu hnv2 c0 c2 c3
        generalize T.ns.length = N at *
        go_wp2_with (first | (go_at_call 58; refine HA.out.mono ?_; rintro e w2 ⟨rfl, nq, hw2⟩; subst w2) | (go_at_call 42; refine (CC.out nq).mono ?_; rintro e w3 ⟨rfl, hq⟩; have HQ := hid hq; clear hq))
        go_roundw
        case rel => exact ⟨k + 1, _, by omega, by go_num, rfl, HQ⟩
        case measure => simp [intOf]; omega
    · have hkp : k = p := by omega
      have FIN : Hid (wr.heap[B1]? = some (.cells #[.int .i64 (limT T p p)] 3) ∧ But (fun x => x = B1) w wr) := by rw [hkp] at r1; exact ⟨r1, r2⟩
      clear t1 r1 r2 HR c0 c1 c2 c3
      go_wp2
      go_end0
      exact ⟨rfl, FIN.out⟩
end Go.Proofs.YtkebflllbphkkaaDoor
namespace Go.Proofs.YtkebflllbphkkaaDoor
open Go.RowKit

def limA (x : Int) : Array Value := if x = 1099511627777 then #[.int .i64 0, .bool false, .int .i64 0] else #[.int .i64 x, .bool true, .int .i64 0]
set_option maxHeartbeats 8000000 in
set_option maxRecDepth 100000 in
theorem limit_any (w : World) (b cb mb : Nat) (nv ov : Value) (L : List NM) (T : Tr) (h : TX w b cb mb nv ov L T) (s : ByteArray) (hs : s.size ≤ maxLen) {p : Nat} (hp : plO T.nms s = some p) (ht : ∀ q, q < T.ns.length → 0 ≤ (T.n q).til ∧ (T.n q).til ≤ 1099511627777) :
    Calls Tryd.prog 22 #[.pointer (some ⟨b, 0, none⟩), .string s] w fun e w' => e = .returned (.tuple (limA (limT T p p))) ∧ Below w.heap.size w w' := by
  have hpl := (plO_some hp).1
  obtain ⟨W, hW⟩ : ∃ W, W = w.alloc (.cells #[.pointer (some ⟨b, 0, none⟩)] 24) := ⟨_, rfl⟩
  have bW : Below w.heap.size w W := by rw [hW]; exact (Below.refl _ _).alloc (Nat.le_refl _) _
  have tW := h.below bW
  have FD := find_any W b cb mb nv ov L T tW s hs
  rw [hp] at FD
  have FD2 : Hid (Calls Tryd.prog 25 #[.pointer (some ⟨b, 0, none⟩), .string s] W fun e w' => e = .returned (.tuple #[.int .i64 (p : Nat), .int .i64 0]) ∧ w' = W) := FD
  obtain ⟨c0, c1, c2, c3⟩ := tW.cells
  obtain ⟨X, cap, hnv, hcap, hX, fz, n0, n1, n5, n6, n7, wp, wc, n8, ow⟩ := tW.nd hpl
  rw [hnv] at c1
  have hnl := h.nl
  have b1 : W.cell? ⟨w.heap.size, 0, none⟩ = some (.pointer (some ⟨b, 0, none⟩)) := by
    rw [hW, cell_of_row _ _ _ #[.pointer (some ⟨b, 0, none⟩)] 24 (0, 0)]
    · rfl
    · exact heap_alloc_new w _
  have hbd := limT_bd ht hpl p (Nat.le_refl _)
  have HW := hid hW
  generalize hti : (T.n p).til = ti at *
  clear n0 n1 n6 n7 n8 ow c0 c2 c3 fz hW FD
  go_enter Tryd.func22, Tryd.ntmps22
  go_upto_region 2 with (rw [← HW.out]; go_at_call 25; refine FD2.out.mono ?_; rintro e w2 ⟨rfl, hw2⟩; rw [hw2]; clear hw2)
  go_upto_region 5 with fail
  obtain ⟨V, hV⟩ : ∃ V, V = W.alloc (.cells #[.int .i64 ti] 3) := ⟨_, rfl⟩
  rw [← hV]
  have bV : Below W.heap.size W V := by rw [hV]; exact (Below.refl _ _).alloc (Nat.le_refl _) _
  have hB1 : V.heap[W.heap.size]? = some (.cells #[.int .i64 ti] 3) := by rw [hV]; exact heap_alloc_new W _
  have v2 : V.cell? ⟨w.heap.size, 0, none⟩ = some (.pointer (some ⟨b, 0, none⟩)) := (bV.cell (p := ⟨w.heap.size, 0, none⟩) (block_lt_of_cell b1)).trans b1
  have AV : Hid (Calls Tryd.prog 41 #[.pointer (some ⟨b, 0, none⟩), .int .i64 p, .func (.func 42) #[] #[.pointer (some ⟨W.heap.size, 0, none⟩), .pointer (some ⟨w.heap.size, 0, none⟩)]] V fun e w' => e = .returned (.tuple #[]) ∧ w'.cell? ⟨W.heap.size, 0, none⟩ = some (.int .i64 (limT T p p)) ∧ Below w.heap.size w w') := by
    have hne : w.heap.size ≠ W.heap.size := by have := block_lt_of_cell b1; have : w.heap.size < W.heap.size := this; omega
    refine (above_any V b cb mb nv ov L T (tW.below bV) W.heap.size w.heap.size p (by rw [hti]; exact hB1) v2 hpl (fp_ne tW (Nat.le_refl _)) hne).mono ?_
    rintro e w' ⟨rfl, q1, q2⟩
    refine ⟨rfl, by rw [cell_of_row _ _ _ _ _ _ q1]; rfl, ?_⟩
    have := q2.to (base := W.heap.size) (fun x hx => by subst hx; exact Nat.le_refl _) bV.size
    exact bW.trans ((bV.trans this).mono bW.size)
  clear h tW bW bV hB1 c1 n5 hnv FD2 HW hV b1
  generalize T.ns.length = N at *
  generalize hlm : limT T p p = lm at *
  have HL := hid hlm
  clear hlm
  by_cases hl : lm = 1099511627777
  · have e : limA lm = #[.int .i64 0, .bool false, .int .i64 0] := by unfold limA; rw [if_pos hl]
    subst hl
    have HE := hid e
    clear e
    go_wp2_with (go_at_call 41; refine AV.out.mono ?_; rintro e w4 ⟨rfl, d1, q⟩; have Q := hid q; clear q)
    exact bodyPost_ret (v := .tuple #[.int .i64 0, .bool false, .int .i64 0]) (by simp [results, Tryd.results22, go_sem]) rfl ⟨by rw [HL.out, HE.out], Q.out⟩
  · have e : limA lm = #[.int .i64 lm, .bool true, .int .i64 0] := by unfold limA; rw [if_neg hl]
    have HE := hid e
    clear e
    go_wp2_with (go_at_call 41; refine AV.out.mono ?_; rintro e w4 ⟨rfl, d1, q⟩; have Q := hid q; clear q)
    exact bodyPost_ret (v := .tuple #[.int .i64 lm, .bool true, .int .i64 0]) (by simp [results, Tryd.results22, go_sem]) rfl ⟨by rw [HL.out, HE.out], Q.out⟩
theorem limit_ps {w0 W : World} {base b : Nat} {T : Tr} (h : PS w0 W base b T) (s : ByteArray) (hs : s.size ≤ maxLen) {p : Nat} (hp : plO T.nms s = some p) :
    Calls Tryd.prog 22 #[.pointer (some ⟨b, 0, none⟩), .string s] W fun e w' => e = .returned (.tuple (limA (limT T p p))) ∧ Below W.heap.size W w' := by
  obtain ⟨F, h1, h2⟩ := h
  obtain ⟨cb, mb, nv, ov, L, t, e⟩ := h1.ex
  exact limit_any W b cb mb nv ov L T t s hs hp h1.inv.til
theorem now_ps {w0 W : World} {base b : Nat} {T : Tr} (h : PS w0 W base b T) :
    Calls Tryd.prog 21 #[.pointer (some ⟨b, 0, none⟩)] W fun e w' => e = .returned (.int .i64 T.now) ∧ w' = W := by
  obtain ⟨F, h1, h2⟩ := h
  obtain ⟨cb, mb, nv, ov, L, t, e⟩ := h1.ex
  exact tnow_any W b cb mb nv ov L T t
/-- Time cancels one that lives when its limit is reached, not ahead of it. -/
theorem lim_adv {T : Tr} (hi : Inv T) {m : Int} (hm : 0 ≤ m ∧ m ≤ 1099511627776) {E : List Nat} (hE : DU (nowT T m) E) {p : Nat} (hp : p < T.ns.length) (hd : p ∉ T.od) : p ∈ (expT (nowT T m) E).od ↔ limT T p p ≤ m := by
  obtain ⟨_, _, x3⟩ := expT_all E (nowT T m) (nowT_inv hi hm.1 hm.2) hE.lt
  have mE : ∀ q, q ∈ E ↔ q < T.ns.length ∧ (T.n q).til ≤ m ∧ q ∉ T.od := fun q => by
    rw [hE.pm.mem_iff]
    unfold dueK
    rw [List.mem_filter, List.mem_range]
    show (q < T.ns.length ∧ (decide ((T.n q).til ≤ m) && !decide (q ∈ T.od)) = true) ↔ _
    simp
  rw [x3, limT_le]
  have up : ∀ a q, (nowT T m).up a q = T.up a q := fun _ _ => rfl
  constructor
  · rintro (h | ⟨q, hq, h⟩)
    · exact absurd h hd
    · obtain ⟨_, h2, _⟩ := (mE q).1 hq
      rcases h with rfl | ⟨_, h⟩
      · exact Or.inl h2
      · rw [up] at h
        exact Or.inr ⟨q, hi.up p q hp h, h, h2⟩
  · rintro (h | ⟨q, hq, h, h2⟩)
    · exact Or.inr ⟨p, (mE p).2 ⟨hp, h, hd⟩, Or.inl rfl⟩
    · exact Or.inr ⟨q, (mE q).2 ⟨by omega, h2, fun z => hd (hi.cl p q hp h z)⟩, Or.inr ⟨hp, h⟩⟩
end Go.Proofs.YtkebflllbphkkaaDoor
namespace Go.Proofs.YtkebflllbphkkaaDoor
open Go.RowKit

theorem adv_lim {w0 W : World} {base b : Nat} {F : Nat → Prop} {T : Tr} (h1 : TV W base b F T) (h2 : Below base w0 W) (x : Int) :
    Calls Tryd.prog 15 #[.pointer (some ⟨b, 0, none⟩), .int .i64 x] W fun e w' => ∃ (u : Value) (err : Int) (U : Tr), e = .returned (.tuple #[u, .int .i64 err]) ∧ (err = 0 ∨ err = 1) ∧ PS w0 w' base b U ∧ But F W w' ∧ U.ns.length = T.ns.length ∧ (∀ a, (U.n a).name = (T.n a).name) ∧ ∀ p, p < T.ns.length → p ∉ T.od → (err = 0 → (p ∈ U.od ↔ limT T p p ≤ U.now)) ∧ (err = 1 → p ∉ U.od) := by
  refine (advance_any W base b F T h1 x).mono ?_
  rintro e w' (⟨hm, E, hE, ⟨u, rfl, _⟩, q⟩ | ⟨hm, ⟨u, rfl, _⟩, q⟩)
  · have hb : 0 ≤ T.now + x ∧ T.now + x ≤ 1099511627776 := by
      have := h1.inv.tm
      unfold mayB at hm
      have := of_decide_eq_true hm
      omega
    obtain ⟨cn, iv, _⟩ := expT_all E (nowT T (T.now + x)) (nowT_inv h1.inv hb.1 hb.2) hE.lt
    refine ⟨u, 0, _, rfl, Or.inl rfl, PS.to h1 h2 q, ?_, cn.len, fun a => cn.name a, fun p hp hd => ⟨fun _ => ?_, fun h => by cases h⟩⟩
    · obtain ⟨_, _, k, _⟩ := q; exact k
    · rw [lim_adv h1.inv hb hE hp hd, cn.now]
      exact Iff.rfl
  · refine ⟨u, 1, T, rfl, Or.inr rfl, PS.to h1 h2 q, ?_, rfl, fun _ => rfl, fun p hp hd => ⟨(fun h => by cases h), fun _ => hd⟩⟩
    obtain ⟨_, _, k, _⟩ := q; exact k
theorem ki_cell {w : World} {base g n c : Nat} {l : List Int} (h : OwnG KI w base (.slice (some ⟨g, 0, none⟩) n c) l) {k : Nat} {s : Int} (hk : l[k]? = some s) : w.cell? ⟨g, k, none⟩ = some (.int .i64 s) := by
  obtain ⟨hkl, hs⟩ := List.getElem?_eq_some_iff.1 hk
  obtain ⟨X', o', e', _, hc'⟩ := (h.gs KI_ok.len).at hkl
  injection e' with e'
  injection e' with e1 e2 _
  subst e1 e2
  have := hc' 0 _ rfl
  rw [show KI.W = 1 from rfl, Nat.mul_one, Nat.zero_add, Nat.add_zero] at this
  rw [this, hs]
theorem own_at {α : Type} {K : RK α} {w : World} {base n c : Nat} {p : Option Addr} {l : List α} (h : OwnG K w base (.slice p n c) l) (hl : 0 < l.length) : ∃ g, p = some ⟨g, 0, none⟩ := by
  obtain ⟨g, _, hpl, _⟩ := h.place (by
    intro hn
    rcases h.2 with ⟨_, e0⟩ | ⟨g, c, cur, e0, _⟩
    · omega
    · rw [e0] at hn; cases hn)
  exact ⟨g, by injection hpl⟩
/-- Those that live, and their limits, so far. -/
structure LV (w : World) (base : Nat) (v7 v8 : Value) (T : Tr) (k : Nat) (Q : List Nat) : Prop where
  o7 : OwnG KS w base v7 (Q.map fun p => (T.n p).name)
  o8 : OwnG KI w base v8 (Q.map fun p => limT T p p)
  ok : ∀ p ∈ Q, p < T.ns.length ∧ p ∉ T.od
  ln : Q.length ≤ k
theorem LV.below {w w' : World} {base k : Nat} {v7 v8 : Value} {T : Tr} {Q : List Nat} (h : LV w base v7 v8 T k Q) (q : Below w.heap.size w w') : LV w' base v7 v8 T k Q := ⟨h.o7.below q, h.o8.below q, h.ok, h.ln⟩
set_option maxHeartbeats 32000000 in
set_option maxRecDepth 100000 in
theorem limits_any (w0 : World) (va : Value) (la : List Cx) (tk : Int) (hA : ARG w0 va la) (hfb : FB w0 w0.heap.size) :
    Calls Tryd.prog 6 #[va, .int .i64 tk] w0 fun e w' => e = .returned (.bool true) ∧ Below w0.heap.size w0 w' := by
  obtain ⟨pa, ca, rfl⟩ := hA.gs.form
  obtain ⟨base, hbase⟩ : ∃ base, base = w0.heap.size := ⟨_, rfl⟩
  have WK : Hid (Calls Tryd.prog 7 #[] w0 fun e w' => e = .returned (.bool true) ∧ Below base w0 w') := works_any w0 base (by omega) (by rw [hbase]; exact hfb)
  have PL : Hid (∀ w, Below base w0 w → Calls Tryd.prog 8 #[.slice pa la.length ca] w fun e w' => PlR w0 base w' e) := fun w hb => played_any w0 w base _ la hA hbase hb ((by rw [hbase] at hb ⊢; exact hfb.below hb))
  rw [← hbase]
  clear hA hfb hbase
  go_enter Tryd.func6, Tryd.ntmps6
  go_upto_region 6 with (first | (go_at_call 7; refine WK.out.mono ?_; rintro e w1 ⟨rfl, q⟩; have B1 := hid q; clear q) | (go_at_call 8; refine (PL.out w1 B1.out).mono ?_; rintro e w2 ⟨b, T, rfl, q⟩; have P2 := hid q; clear q))
  have OR := hid (names_ps P2.out)
  clear WK PL B1
  go_upto_region 9 with (go_at_call 19; refine OR.out.mono ?_; rintro e w3 ⟨g, rfl, q1, q2, q3⟩; have O3 := hid q1; have P3 := hid q2; clear q1 q2 q3)
  clear OR P2
  have HI := hid P3.out.inv
  have hlen := HI.out.len
  obtain ⟨n, hn⟩ : ∃ n, n = T.ns.length := ⟨_, rfl⟩
  rw [← hn] at O3 hlen ⊢
  have HN := hid hn
  clear hn
  have S0 : Hid (LV w3 w3.heap.size (.slice none 0 0) (.slice none 0 0) T 0 [] ∧ Below w3.heap.size w3 w3) := ⟨⟨OwnG.nil _ _ _, OwnG.nil _ _ _, (fun _ h => by cases h), Nat.le_refl _⟩, Below.refl _ _⟩
  go_wp2_with fail
  go_loopw [7, 8, 32] (fun v7 v8 v32 wr => ∃ (k : Nat) (Q : List Nat) (x7 x8 : Value) (wk : World), v32 = .int .i64 k ∧ x7 = v7 ∧ x8 = v8 ∧ wk = wr ∧ k ≤ n ∧ Hid (LV wk w3.heap.size x7 x8 T k Q ∧ Below w3.heap.size w3 wk)) (fun _ _ v32 _ => n - (intOf v32).toNat)
  case atStart => exact ⟨0, [], _, _, _, rfl, rfl, rfl, rfl, Nat.zero_le _, S0⟩
  case round =>
    obtain ⟨k, Q, x7, x8, wr, rfl, rfl, rfl, rfl, hk, HS⟩ := hrel
    clear S0
    by_cases hlt : k < n
    · have hkT : k < T.ns.length := by rw [← HN.out]; exact hlt
      have e1 := nms_cell (O3.out.below HS.out.2) (p := k) hkT
      obtain ⟨hnp, hns⟩ := P3.out.nm hkT
      have DN := hid (done_ps (P3.out.below HS.out.2) _ hns hnp)
      have LM := hid (limit_ps (P3.out.below HS.out.2) _ hns hnp)
      obtain ⟨nm, hnm⟩ : ∃ nm, nm = (T.n k).name := ⟨_, rfl⟩
      obtain ⟨lm, hlm⟩ : ∃ lm, lm = limT T k k := ⟨_, rfl⟩
      rw [← hnm] at e1 DN LM
      rw [← hlm] at LM
      have HQ := hid HS.out.1.ln
      have hQ : Q.length ≤ 256 := by have := HQ.out; omega
      by_cases hd : k ∈ T.od
      · rw [decide_eq_true hd] at DN
        have NX : Hid (∀ w', Below wr.heap.size wr w' → LV w' w3.heap.size x7 x8 T (k + 1) Q ∧ Below w3.heap.size w3 w') := fun w' hb => ⟨⟨(HS.out.1.below hb).o7, (HS.out.1.below hb).o8, HS.out.1.ok, by have := HQ.out; omega⟩, HS.out.2.trans (hb.mono HS.out.2.size)⟩
        clear HS hnp hd hnm hlm
        by_cases hl : lm = 1099511627777
        · subst hl
          have LM2 : Hid (Calls Tryd.prog 22 #[.pointer (some ⟨b, 0, none⟩), .string nm] wr fun e w' => e = .returned (.tuple #[.int .i64 0, .bool false, .int .i64 0]) ∧ Below wr.heap.size wr w') := LM
          clear LM
          go_wp2_with (first | (go_at_call 17; refine DN.out.mono ?_; rintro e w4 ⟨rfl, hw4⟩; subst w4) | (go_at_call 22; refine LM2.out.mono ?_; rintro e w5 ⟨rfl, q⟩; have N5 := hid (NX.out w5 q); clear q))
          go_roundw
          case rel => exact ⟨k + 1, Q, _, _, _, by go_num, rfl, rfl, rfl, by omega, N5⟩
          case measure => simp [intOf]; omega
        · have LM2 : Hid (Calls Tryd.prog 22 #[.pointer (some ⟨b, 0, none⟩), .string nm] wr fun e w' => e = .returned (.tuple #[.int .i64 lm, .bool true, .int .i64 0]) ∧ Below wr.heap.size wr w') := by
            have := LM.out
            unfold limA at this
            rw [if_neg hl] at this
            exact this
          clear LM
          go_wp2_with (first | (go_at_call 17; refine DN.out.mono ?_; rintro e w4 ⟨rfl, hw4⟩; subst w4) | (go_at_call 22; refine LM2.out.mono ?_; rintro e w5 ⟨rfl, q⟩; have N5 := hid (NX.out w5 q); clear q))
          go_roundw
          case rel => exact ⟨k + 1, Q, _, _, _, by go_num, rfl, rfl, rfl, by omega, N5⟩
          case measure => simp [intOf]; omega
      · rw [decide_eq_false hd] at DN
        have A7 : Hid (∀ w5, Below wr.heap.size wr w5 → OwnG KS w5 w3.heap.size x7 (Q.map fun p => (T.n p).name)) := fun w5 hb => HS.out.1.o7.below hb
        have A8 : Hid (∀ w5, Below wr.heap.size wr w5 → ∀ w8, (∀ j, j < w5.heap.size → some j ≠ x7.ownBlock → w8.heap[j]? = w5.heap[j]?) → OwnG KI w8 w3.heap.size x8 (Q.map fun p => limT T p p)) := fun w5 hb w8 k8 => by
          have o7 := HS.out.1.o7.below hb
          have o8 := HS.out.1.o8.below hb
          exact o8.far (fun gx hgx => k8 gx (o8.lt hgx).2 (fun e => (o8.apart o7 (by decide) e.symm) hgx))
        have A9 : Hid (∀ w5, Below wr.heap.size wr w5 → ∀ w8 w9 g8 c8 g9 c9, OwnG KS w8 w3.heap.size (.slice (some ⟨g8, 0, none⟩) ((Q.map fun p => (T.n p).name).length + 1) c8) ((Q.map fun p => (T.n p).name) ++ [nm]) → Below w3.heap.size w5 w8 → OwnG KI w8 w3.heap.size x8 (Q.map fun p => limT T p p) → OwnG KI w9 w3.heap.size (.slice (some ⟨g9, 0, none⟩) ((Q.map fun p => limT T p p).length + 1) c9) ((Q.map fun p => limT T p p) ++ [lm]) → Below w3.heap.size w8 w9 → (∀ j, j < w8.heap.size → some j ≠ x8.ownBlock → w9.heap[j]? = w8.heap[j]?) → LV w9 w3.heap.size (.slice (some ⟨g8, 0, none⟩) ((Q.map fun p => (T.n p).name).length + 1) c8) (.slice (some ⟨g9, 0, none⟩) ((Q.map fun p => limT T p p).length + 1) c9) T (k + 1) (Q ++ [k]) ∧ Below w3.heap.size w3 w9) := fun w5 hb w8 w9 g8 c8 g9 c9 o7 b8 o8 o9 b9 k9 => by
          refine ⟨⟨?_, ?_, fun p hp => ?_, by have := HQ.out; simp; omega⟩, ((HS.out.2.trans (hb.mono HS.out.2.size)).trans b8).trans b9⟩
          · rw [List.map_append]
            show OwnG KS _ _ _ (_ ++ [(T.n k).name])
            rw [← hnm]
            exact o7.far (fun gx hgx => k9 gx (o7.lt hgx).2 (fun e => (o7.apart o8 (by decide) e.symm) hgx))
          · rw [List.map_append]
            show OwnG KI _ _ _ (_ ++ [limT T k k])
            rw [← hlm]
            exact o9
          · rcases List.mem_append.1 hp with q | q
            · exact HS.out.1.ok p q
            · have : p = k := by simpa using q
              subst this
              exact ⟨hkT, hd⟩
        have ZR : Hid (w3.heap.size ≤ wr.heap.size) := HS.out.2.size
        have hq7 : ((Q.map fun p => (T.n p).name).length + 1) * 16 ≤ 140737488355328 := by rw [List.length_map]; omega
        have hq8 : ((Q.map fun p => limT T p p).length + 1) * 8 ≤ 140737488355328 := by rw [List.length_map]; omega
        clear HS hnp hd hnm hlm
        generalize (Q.map fun p => (T.n p).name) = L7 at *
        generalize (Q.map fun p => limT T p p) = L8 at *
        by_cases hl : lm = 1099511627777
        · subst hl
          have LM2 : Hid (Calls Tryd.prog 22 #[.pointer (some ⟨b, 0, none⟩), .string nm] wr fun e w' => e = .returned (.tuple #[.int .i64 0, .bool false, .int .i64 0]) ∧ Below wr.heap.size wr w') := LM
          clear LM
          go_upto_region 19 with (first | (go_at_call 17; refine DN.out.mono ?_; rintro e w4 ⟨rfl, hw4⟩; subst w4) | (go_at_call 22; refine LM2.out.mono ?_; rintro e w5 ⟨rfl, q⟩; have B5 := hid q; clear q))
          go_wp2_with (first | (at_builtin; refine append_g KS KS_ok rfl _ _ 26 rfl w3.heap.size Tryd.underlying26 w5 _ _ x7 L7 nm _ rfl (A7.out w5 B5.out) w5.heap.size rfl rfl rfl hq7 (Nat.le_trans ZR.out B5.out.size) ?_; intro g8 c8 w8 o8 b8 k8 q8; have O8 := hid o8; have B8 := hid b8; have I8 := hid (A8.out w5 B5.out w8 k8); clear o8 b8 k8 q8) | (at_builtin; refine append_g KI KI_ok rfl _ _ 51 rfl w3.heap.size Tryd.underlying51 w8 _ _ x8 L8 1099511627777 _ rfl I8.out w8.heap.size rfl rfl rfl hq8 (Nat.le_trans (Nat.le_trans ZR.out B5.out.size) B8.out.size) ?_; intro g9 c9 w9 o9 b9 k9 q9; have N9 := hid (A9.out w5 B5.out w8 w9 g8 c8 g9 c9 O8.out B8.out I8.out o9 b9 k9); clear o9 b9 k9 q9))
          go_roundw
          case rel => exact ⟨k + 1, Q ++ [k], _, _, _, by go_num, rfl, rfl, rfl, by omega, N9⟩
          case measure => simp [intOf]; omega
        · have LM2 : Hid (Calls Tryd.prog 22 #[.pointer (some ⟨b, 0, none⟩), .string nm] wr fun e w' => e = .returned (.tuple #[.int .i64 lm, .bool true, .int .i64 0]) ∧ Below wr.heap.size wr w') := by
            have := LM.out
            unfold limA at this
            rw [if_neg hl] at this
            exact this
          clear LM
          go_upto_region 19 with (first | (go_at_call 17; refine DN.out.mono ?_; rintro e w4 ⟨rfl, hw4⟩; subst w4) | (go_at_call 22; refine LM2.out.mono ?_; rintro e w5 ⟨rfl, q⟩; have B5 := hid q; clear q))
          go_wp2_with (first | (at_builtin; refine append_g KS KS_ok rfl _ _ 26 rfl w3.heap.size Tryd.underlying26 w5 _ _ x7 L7 nm _ rfl (A7.out w5 B5.out) w5.heap.size rfl rfl rfl hq7 (Nat.le_trans ZR.out B5.out.size) ?_; intro g8 c8 w8 o8 b8 k8 q8; have O8 := hid o8; have B8 := hid b8; have I8 := hid (A8.out w5 B5.out w8 k8); clear o8 b8 k8 q8) | (at_builtin; refine append_g KI KI_ok rfl _ _ 51 rfl w3.heap.size Tryd.underlying51 w8 _ _ x8 L8 lm _ rfl I8.out w8.heap.size rfl rfl rfl hq8 (Nat.le_trans (Nat.le_trans ZR.out B5.out.size) B8.out.size) ?_; intro g9 c9 w9 o9 b9 k9 q9; have N9 := hid (A9.out w5 B5.out w8 w9 g8 c8 g9 c9 O8.out B8.out I8.out o9 b9 k9); clear o9 b9 k9 q9))
          go_roundw
          case rel => exact ⟨k + 1, Q ++ [k], _, _, _, by go_num, rfl, rfl, rfl, by omega, N9⟩
          case measure => simp [intOf]; omega
    · have hkn : k = n := by omega
      subst hkn
      obtain ⟨F, h1, h2⟩ := P3.out
      have tv := h1.below HS.out.2
      have bl := h2.trans (HS.out.2.mono h1.sz)
      have AD := hid (adv_lim tv bl tk)
      have KP5 : Hid (∀ w5, But F wr w5 → LV w5 w3.heap.size x7 x8 T k Q) := fun w5 q => by
        refine ⟨HS.out.1.o7.far (fun gx hgx => q.block gx (HS.out.1.o7.lt hgx).2 (fun hx => ?_)), HS.out.1.o8.far (fun gx hgx => q.block gx (HS.out.1.o8.lt hgx).2 (fun hx => ?_)), HS.out.1.ok, HS.out.1.ln⟩
        · have := h1.ok.lt hx
          have := (HS.out.1.o7.lt hgx).1
          omega
        · have := h1.ok.lt hx
          have := (HS.out.1.o8.lt hgx).1
          omega
      obtain ⟨p7, c7, e7, _⟩ := HS.out.1.o7.form
      obtain ⟨p8, c8, e8, _⟩ := HS.out.1.o8.form
      rw [List.length_map] at e7 e8
      have hQ : Q.length ≤ 256 := by have := HS.out.1.ln; omega
      subst e7 e8
      obtain ⟨m, hm⟩ : ∃ m, m = Q.length := ⟨_, rfl⟩
      rw [← hm] at hQ KP5 ⊢
      have HM := hid hm
      clear hm tv bl h1 h2 HS O3 P3
      go_upto_region 22 with (go_at_call 15; refine AD.out.mono ?_; rintro e w5 ⟨u, err, U, rfl, herr, q1, q2, q3, q4, q5⟩; have L5 := hid (And.intro (KP5.out w5 q2) q1); have U3 := hid q3; have U4 := hid q4; have U5 := hid q5; clear q1 q2 q3 q4 q5)
      clear AD KP5
      rcases herr with rfl | rfl
      · go_wp2_with fail
        go_loopw [76] (fun v76 wr => ∃ (i : Nat) (wk : World), v76 = .int .i64 i ∧ wk = wr ∧ i ≤ m ∧ Hid (LV wk w3.heap.size (.slice p7 m c7) (.slice p8 m c8) T k Q ∧ PS w0 wk base b U)) (fun v76 _ => m - (intOf v76).toNat)
        case atStart => exact ⟨0, _, rfl, rfl, Nat.zero_le _, L5⟩
        case round =>
          obtain ⟨i, wr, rfl, rfl, hi, HS⟩ := hrel
          clear L5
          by_cases hlt : i < m
          · have hiQ : i < Q.length := by rw [← HM.out]; exact hlt
            obtain ⟨hqT, hqd⟩ := HS.out.1.ok _ (List.getElem_mem hiQ)
            obtain ⟨q, hq⟩ : ∃ q, q = Q[i] := ⟨_, rfl⟩
            rw [← hq] at hqT hqd
            obtain ⟨g7, rfl⟩ := own_at HS.out.1.o7 (by rw [List.length_map]; omega)
            obtain ⟨g8, rfl⟩ := own_at HS.out.1.o8 (by rw [List.length_map]; omega)
            have e7 := ks_cell HS.out.1.o7 (k := i) (s := (T.n q).name) (by simp [hiQ, hq])
            have e8 := ki_cell HS.out.1.o8 (k := i) (s := limT T q q) (by simp [hiQ, hq])
            have hqU : q < U.ns.length := by rw [U3.out]; exact hqT
            obtain ⟨hnp, hns⟩ := HS.out.2.nm hqU
            rw [U4.out] at hnp hns
            have DN := done_ps HS.out.2 _ hns hnp
            have NW : Hid (∀ n, Calls Tryd.prog 21 #[.pointer (some ⟨b, 0, none⟩)] (wr.drewN n) fun e w' => e = .returned (.int .i64 U.now) ∧ w' = wr.drewN n) := fun n => now_ps (HS.out.2.below ⟨rfl, rfl, rfl, Nat.le_refl _, fun _ _ => rfl⟩)
            have iff := (U5.out q hqT hqd).1 (by simp)
            have DR : Hid (∀ n, LV (wr.drewN n) w3.heap.size (.slice (some ⟨g7, 0, none⟩) m c7) (.slice (some ⟨g8, 0, none⟩) m c8) T k Q ∧ PS w0 (wr.drewN n) base b U) := fun n => ⟨HS.out.1.below ⟨rfl, rfl, rfl, Nat.le_refl _, fun _ _ => rfl⟩, HS.out.2.below ⟨rfl, rfl, rfl, Nat.le_refl _, fun _ _ => rfl⟩⟩
            clear HS hnp hq hqT hqd
            generalize (T.n q).name = nm at *
            generalize limT T q q = lm at *
            generalize hnow : U.now = nw at *
            by_cases hdd : q ∈ U.od
            · rw [decide_eq_true hdd] at DN
              have hle := iff.1 hdd
              have DN2 := hid DN
              clear DN iff hdd
              go_wp2_with (go_at_call 17; refine DN2.out.mono ?_; rintro e w6 ⟨rfl, hw6⟩; subst w6)
              go_quiet ((go_at_call 21; exact Calls.quiet_of_same (NW.out _)))
              go_wp2_with fail
              go_roundw
              case rel => exact ⟨i + 1, _, by go_num, rfl, by omega, DR.out _⟩
              case measure => simp [intOf]; omega
            · rw [decide_eq_false hdd] at DN
              have hle : ¬ lm ≤ nw := fun z => hdd (iff.2 z)
              have DN2 := hid DN
              clear DN iff hdd
              go_wp2_with (go_at_call 17; refine DN2.out.mono ?_; rintro e w6 ⟨rfl, hw6⟩; subst w6)
              go_quiet ((go_at_call 21; exact Calls.quiet_of_same (NW.out _)))
              go_wp2_with fail
              go_roundw
              case rel => exact ⟨i + 1, _, by go_num, rfl, by omega, DR.out _⟩
              case measure => simp [intOf]; omega
          · have FF := hid HS.out.2.bl
            clear HS
            go_wp2_with fail
            go_ret
            exact ⟨rfl, FF.out⟩
      · go_wp2_with fail
        go_loopw [76] (fun v76 wr => ∃ (i : Nat) (wk : World), v76 = .int .i64 i ∧ wk = wr ∧ i ≤ m ∧ Hid (LV wk w3.heap.size (.slice p7 m c7) (.slice p8 m c8) T k Q ∧ PS w0 wk base b U)) (fun v76 _ => m - (intOf v76).toNat)
        case atStart => exact ⟨0, _, rfl, rfl, Nat.zero_le _, L5⟩
        case round =>
          obtain ⟨i, wr, rfl, rfl, hi, HS⟩ := hrel
          clear L5
          by_cases hlt : i < m
          · have hiQ : i < Q.length := by rw [← HM.out]; exact hlt
            obtain ⟨hqT, hqd⟩ := HS.out.1.ok _ (List.getElem_mem hiQ)
            obtain ⟨q, hq⟩ : ∃ q, q = Q[i] := ⟨_, rfl⟩
            rw [← hq] at hqT hqd
            obtain ⟨g7, rfl⟩ := own_at HS.out.1.o7 (by rw [List.length_map]; omega)
            have e7 := ks_cell HS.out.1.o7 (k := i) (s := (T.n q).name) (by simp [hiQ, hq])
            have hqU : q < U.ns.length := by rw [U3.out]; exact hqT
            obtain ⟨hnp, hns⟩ := HS.out.2.nm hqU
            rw [U4.out] at hnp hns
            have DN := done_ps HS.out.2 _ hns hnp
            rw [decide_eq_false ((U5.out q hqT hqd).2 (by simp))] at DN
            have DN2 := hid DN
            have DR : Hid (∀ n, LV (wr.drewN n) w3.heap.size (.slice (some ⟨g7, 0, none⟩) m c7) (.slice p8 m c8) T k Q ∧ PS w0 (wr.drewN n) base b U) := fun n => ⟨HS.out.1.below ⟨rfl, rfl, rfl, Nat.le_refl _, fun _ _ => rfl⟩, HS.out.2.below ⟨rfl, rfl, rfl, Nat.le_refl _, fun _ _ => rfl⟩⟩
            clear HS hnp hq hqT hqd DN
            generalize (T.n q).name = nm at *
            go_wp2_with (go_at_call 17; refine DN2.out.mono ?_; rintro e w6 ⟨rfl, hw6⟩; subst w6)
            go_quiet (fail)
            go_wp2_with fail
            go_roundw
            case rel => exact ⟨i + 1, _, by go_num, rfl, by omega, DR.out _⟩
            case measure => simp [intOf]; omega
          · have FF := hid HS.out.2.bl
            clear HS
            go_wp2_with fail
            go_ret
            exact ⟨rfl, FF.out⟩
end Go.Proofs.YtkebflllbphkkaaDoor
